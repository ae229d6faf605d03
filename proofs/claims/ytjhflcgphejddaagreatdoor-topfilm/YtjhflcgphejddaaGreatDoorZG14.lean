/-
  Lemmas for the law above, joined into one text (FlK, FlEb, FlLE, FlLF, FlEo, ChN, ChB). No statement is proved here.
-/
import Derived.Test.YtjhflcgphejddaaGreatDoorZG5
import Derived.Test.YtjhflcgphejddaaGreatDoorZG1
import Derived.Test.YtjhflcgphejddaaGreatDoorZG8
import Derived.Deep.QuietTactic
import Derived.BigQuiet
import Derived.Deep.DeepCutAuto
import Derived.Test.YtjhflcgphejddaaGreatDoorZG9
import Derived.Test.YtjhflcgphejddaaGreatDoorZG13
import Derived.Laws.MakeOwn
import Derived.Lib.SliceRun
import Derived.Test.YtjhflcgphejddaaGreatDoorZG0
namespace Go.Proofs.YtjhflcgphejddaaGreatDoor
open Go.RowKit
set_option linter.unusedVariables false
set_option maxRecDepth 100000

theorem chqF_cnt {N : Nat} {P : Nat → Pc} (h : cntF N ≠ 0) : chqF N P = cntF N := by unfold chqF; rw [if_pos h]
theorem chqF_all {N : Nat} {P : Nat → Pc} (h : cntF N = 0) {j : Nat} (h1 : fstF (allP P) j = 0) (hj : j < N) (hf : allP P j ≠ 0) : chqF N P = allP P j := by
  have e := fstF_at h1 hj hf
  unfold chqF
  rw [if_neg (by omega), e, if_pos hf]
theorem chqF_sam {N : Nat} {P : Nat → Pc} (h : cntF N = 0) (h0 : fstF (allP P) N = 0) {j : Nat} (h1 : fstF (samP P) j = 0) (hj : j < N) (hf : samP P j ≠ 0) : chqF N P = samP P j := by
  have e := fstF_at h1 hj hf
  unfold chqF
  rw [if_neg (by omega), if_neg (by omega), e]
theorem chqF_none {N : Nat} {P : Nat → Pc} (h : cntF N = 0) (h0 : fstF (allP P) N = 0) (h1 : fstF (samP P) N = 0) : chqF N P = 0 := by
  unfold chqF
  rw [if_neg (by omega), if_neg (by omega), h1]

set_option maxHeartbeats 4000000 in
theorem fcheck_ok {w : World} {v : Value} {N : Nat} {P : Nat → Pc} (h : PicsIn w v N P) :
    Calls Tryz.prog 19 #[v] w fun e w' => e = .returned (errN (chqF N P)) ∧ Below w.heap.size w w' := by
  have K0 := hide (fun w => fcount_ok N w)
  obtain ⟨ad, cap, rfl, hc1, hc2, h3⟩ := h
  unfold maxLen at hc2
  by_cases hc : cntF N = 0
  · obtain ⟨hN1, hN6⟩ := cntF_zero.1 hc
    obtain ⟨b, o, rfl, hcs⟩ := h3 (by omega)
    have HC := hide hcs
    obtain ⟨s0, hs0⟩ := hcs 0 (by omega)
    rw [show o + 0 * 3 = o by omega] at hs0
    have HS0 := hide hs0
    have HA := hide (fun j h1 hj hf => chqF_all (N := N) (P := P) hc (j := j) h1 hj hf)
    have HS := hide (fun h0 j h1 hj hf => chqF_sam (N := N) (P := P) hc h0 (j := j) h1 hj hf)
    have HZ := hide (fun h0 h1 => chqF_none (N := N) (P := P) hc h0 h1)
    rw [hc] at K0
    clear hcs hs0 h3 hc
    go_enter Tryz.func19, Tryz.ntmps19
    go_wp2_with fail
    refine (K0.out _).mono ?_
    rintro e w1 ⟨rfl, rfl⟩
    rw [errN_zero]
    go_wp2
    go_loopw [17] (fun i wr => ∃ j : Nat, j ≤ N ∧ i = .int .i64 j ∧ Hid (fstF (allP P) j = 0) ∧ Below w.heap.size w wr) (fun i _ => N - (intOf i).toNat)
    case atStart => exact ⟨0, Nat.zero_le _, rfl, rfl, Below.refl _ _⟩
    case round =>
      obtain ⟨j, hj, rfl, HF, hb⟩ := hrel
      have HB := hide hb
      clear hb
      by_cases hlt : j < N
      · obtain ⟨s, hs⟩ := HC.out j hlt
        obtain ⟨c0, c1, c2, hi⟩ := hs.below HB.out
        have hba : Below wr.heap.size wr (wr.alloc (.cells #[.int .i64 (P j).a, .int .i64 (P j).b, s] 33)) := (Below.refl _ _).alloc (Nat.le_refl _) _
        have K := hide (pcheck_ok (P j).a (P j).b (hi.below hba))
        have HO : Hid (picF (P j).a (P j).b (P j).n (P j).f = allP P j) := rfl
        rw [HO.out] at K
        have HFj := hide (HA.out j HF.out hlt)
        have HFs := hide (fun h => fstF_go (j := j) HF.out h)
        have HBa := hide (below_two HB.out hba)
        obtain ⟨adp, cpp, rfl⟩ := slice_shape hi
        clear hs hi hba HO
        generalize allP P j = O at *
        generalize (P j).a = pa at *
        generalize (P j).b = pb at *
        go_wp2_with fail
        refine (K.out).mono ?_
        rintro e w2 ⟨rfl, hb2⟩
        have HB2 := hide (below_two HBa.out hb2)
        clear hb2 K
        by_cases hO : O = 0
        · subst hO
          rw [errN_zero]
          have HN := hide (HFs.out rfl)
          clear HFs HFj
          go_wp2
          go_roundw
          case rel => exact ⟨j + 1, by omega, by go_num, HN, HB2.out⟩
          case measure => simp [intOf]; omega
        · have HE := hide (HFj.out hO)
          have HN := hide (errN_pos hO)
          rw [HN.out]
          clear HFs HFj
          go_wp2
          go_ret
          exact ⟨by rw [HE.out, HN.out]; rfl, HB2.out⟩
      · obtain rfl : j = N := by omega
        have HH := hide (fun h1 => HZ.out HF.out h1)
        have HHS := hide (HS.out HF.out)
        clear HA HS HZ HF
        have HBo := HB
        go_wp2
        go_loopw [29] (fun i wx => ∃ k : Nat, k ≤ j ∧ i = .int .i64 k ∧ Hid (fstF (samP P) k = 0) ∧ Below w.heap.size w wx) (fun i _ => j - (intOf i).toNat)
        case atStart => exact ⟨0, Nat.zero_le _, rfl, rfl, HB.out⟩
        case round =>
          obtain ⟨k, hk, rfl, HF, hb⟩ := hrel
          have HB := hide hb
          clear hb
          by_cases hlt : k < j
          · obtain ⟨s, hs⟩ := HC.out k hlt
            obtain ⟨c0, c1, c2, hi⟩ := hs.below HB.out
            obtain ⟨d0, d1, _, _⟩ := HS0.out.below HB.out
            have hba : Below wr.heap.size wr (wr.alloc (.cells #[.int .i64 (P k).a, .int .i64 (P k).b, s] 33)) := (Below.refl _ _).alloc (Nat.le_refl _) _
            obtain ⟨⟨p0, _⟩, ⟨p1, _⟩, _, _⟩ := picIn_new wr (P k).a (P k).b s
            have hlw := hba.size
            have hp : ∀ q, Below (wr.alloc (.cells #[.int .i64 (P k).a, .int .i64 (P k).b, s] 33)).heap.size (wr.alloc (.cells #[.int .i64 (P k).a, .int .i64 (P k).b, s] 33)) ((wr.alloc (.cells #[.int .i64 (P k).a, .int .i64 (P k).b, s] 33)).drewN q) := fun q => below_drewN (Below.refl _ _) q
            have x0 := fun q => cell_below (hp q) p0
            have x1 := fun q => cell_below (hp q) p1
            have y0 := fun q => cell_below (below_drewN hba q) d0
            have y1 := fun q => cell_below (below_drewN hba q) d1
            have HFj := hide (HHS.out k HF.out hlt)
            have HFs := hide (fun h => fstF_go (j := k) HF.out h)
            have HO : Hid (samP P k = if (P k).a = (P 0).a ∧ (P k).b = (P 0).b then 0 else 3) := rfl
            have HBa := hide (below_two HB.out hba)
            have hjn : (0 : Int) < (j : Int) := by omega
            obtain ⟨adp, cpp, rfl⟩ := slice_shape hi
            clear hs hi hba hp p0 p1 d0 d1 hlw
            generalize samP P k = O at *
            generalize (P k).a = pa at *
            generalize (P k).b = pb at *
            generalize (P 0).a = qa at *
            generalize (P 0).b = qb at *
            by_cases ha : pa = qa
            · subst ha
              have n1 : (pa != pa) = false := by simp
              by_cases hb : pb = qb
              · subst hb
                have n2 : (pb != pb) = false := by simp
                rw [if_pos ⟨rfl, rfl⟩] at HO
                have HN1 := hide (HFs.out HO.out)
                clear HFs HFj HO
                go_wp2_with fail
                go_quiet (fail)
                go_wp2
                go_roundw
                case rel => exact ⟨k + 1, by omega, by go_num, HN1, below_drewN HBa.out _⟩
                case measure => simp [intOf]; omega
              · have n2 : (pb != qb) = true := by simp [bne, hb]
                rw [if_neg (fun h => hb h.2)] at HO
                have HE := hide (HFj.out (by rw [HO.out]; omega))
                clear HFs HFj hb
                go_wp2_with fail
                go_quiet (fail)
                go_wp2
                go_ret
                exact ⟨by rw [HE.out, HO.out]; rfl, below_drewN HBa.out _⟩
            · have n1 : (pa != qa) = true := by simp [bne, ha]
              rw [if_neg (fun h => ha h.1)] at HO
              have HE := hide (HFj.out (by rw [HO.out]; omega))
              clear HFs HFj ha
              go_wp2_with fail
              go_quiet (fail)
              go_wp2
              go_ret
              exact ⟨by rw [HE.out, HO.out]; rfl, below_drewN HBa.out _⟩
          · obtain rfl : k = j := by omega
            have HE := hide (HH.out HF.out)
            go_wp2
            go_ret
            exact ⟨by rw [HE.out]; rfl, HB.out⟩
  · have HE := hide (chqF_cnt (P := P) hc)
    have HN := hide (errN_pos hc)
    clear h3
    generalize cntF N = k at *
    clear hc
    go_enter Tryz.func19, Tryz.ntmps19
    go_wp2_with fail
    refine (K0.out _).mono ?_
    rintro e w1 ⟨rfl, rfl⟩
    rw [HN.out]
    go_wp2
    go_ret
    exact ⟨by rw [HE.out, HN.out]; rfl, Below.refl _ _⟩
end Go.Proofs.YtjhflcgphejddaaGreatDoor

namespace Go.Proofs.YtjhflcgphejddaaGreatDoor
open Go.RowKit
set_option linter.unusedVariables false
set_option maxRecDepth 100000

theorem rngF_in {ev st : Int} : rngF ev st = if (inOk ev 6 && inOk st 64) = true then 0 else 1 := by
  unfold rngF
  by_cases h : inOk ev 6 && inOk st 64
  · rw [if_pos h]
    rw [Bool.and_eq_true, inOk_iff, inOk_iff] at h
    rw [if_pos ⟨h.1.1, h.1.2, h.2.1, h.2.2⟩]
  · rw [if_neg h]
    rw [if_neg]
    intro h2
    apply h
    rw [Bool.and_eq_true, inOk_iff, inOk_iff]
    exact ⟨⟨h2.1, h2.2.1⟩, h2.2.2⟩

set_option maxHeartbeats 2000000 in
theorem fenc_bad {w : World} {v : Value} {N : Nat} {P : Nat → Pc} (ev st : Int) (h : PicsIn w v N P) (hx : enfF N P ev st ≠ 0) :
    Calls Tryz.prog 5 #[v, .int .i64 ev, .int .i64 st] w fun e w' => e = .returned (.tuple #[.slice none 0 0, errN (enfF N P ev st)]) ∧ Below w.heap.size w w' := by
  have K := hide (fcheck_ok h)
  obtain ⟨ad, cap, rfl, _, _, h3⟩ := h
  clear h3
  by_cases hc : chqF N P = 0
  · have HE := hide (enfF_range (ev := ev) (st := st) hc)
    rw [HE.out, rngF_in] at hx
    rw [rngF_in] at HE
    rw [hc] at K
    clear hc
    have K1 := hide (fun w => fwithin_ok ev 6 w)
    have K2 := hide (fun w => fwithin_ok st 64 w)
    cases h1 : inOk ev 6 with
    | false =>
      rw [h1, Bool.false_and, if_neg (by simp)] at HE
      rw [h1] at K1
      clear hx h1 K2
      go_enter Tryz.func5, Tryz.ntmps5
      go_wp2_with fail
      refine (K.out).mono ?_
      rintro e w1 ⟨rfl, hb1⟩
      rw [errN_zero]
      have HB := hide hb1
      clear hb1
      go_wp2_with fail
      refine (K1.out _).mono ?_
      rintro e w2 ⟨rfl, rfl⟩
      go_wp2
      go_ret2
      exact ⟨by rw [HE.out]; rfl, HB.out⟩
    | true =>
      cases h2 : inOk st 64 with
      | true => rw [h1, h2] at hx; exact absurd rfl hx
      | false =>
        rw [h1, h2, Bool.and_false, if_neg (by simp)] at HE
        rw [h1] at K1
        rw [h2] at K2
        clear hx h1 h2
        go_enter Tryz.func5, Tryz.ntmps5
        go_wp2_with fail
        refine (K.out).mono ?_
        rintro e w1 ⟨rfl, hb1⟩
        rw [errN_zero]
        have HB := hide hb1
        clear hb1
        go_wp2_with fail
        refine (K1.out _).mono ?_
        rintro e w2 ⟨rfl, rfl⟩
        go_wp2_with fail
        refine (K2.out _).mono ?_
        rintro e w2 ⟨rfl, rfl⟩
        go_wp2
        go_ret2
        exact ⟨by rw [HE.out]; rfl, HB.out⟩
  · have HE := hide (enfF_first (ev := ev) (st := st) hc)
    have HN := hide (errN_pos hc)
    generalize chqF N P = k at *
    clear hc hx
    go_enter Tryz.func5, Tryz.ntmps5
    go_wp2_with fail
    refine (K.out).mono ?_
    rintro e w1 ⟨rfl, hb1⟩
    rw [HN.out]
    have HB := hide hb1
    clear hb1
    go_wp2
    go_ret2
    exact ⟨by rw [HE.out, HN.out]; rfl, HB.out⟩
end Go.Proofs.YtjhflcgphejddaaGreatDoor

namespace Go.Proofs.YtjhflcgphejddaaGreatDoor
open Go.RowKit
set_option linter.unusedVariables false
set_option maxRecDepth 100000

def opsEx0 : Oper := { dst := some 28, op := Op.move (Operand.tmp 0), type := 22, pos := "film.go:19", after := #[], guard := none }
def opsEx1 : Oper := { dst := some 29, op := Op.indexAddr 22 (Operand.tmp 28) (Operand.const (Value.int IntKind.i64 0)), type := 0, pos := "film.go:19", after := #[{ on := 0, ground := Ground.data }], guard := none }
def opsEx2 : Oper := { dst := some 30, op := Op.fieldAddr 33 (Operand.tmp 29) 0, type := 0, pos := "film.go:19", after := #[{ on := 1, ground := Ground.data }], guard := none }
def opsEx3 : Oper := { dst := some 31, op := Op.load 3 (Operand.tmp 30), type := 3, pos := "film.go:19", after := #[{ on := 2, ground := Ground.data }], guard := none }
def opsEx4 : Oper := { dst := some 32, op := Op.move (Operand.tmp 0), type := 22, pos := "film.go:19", after := #[], guard := none }
def opsEx5 : Oper := { dst := some 33, op := Op.indexAddr 22 (Operand.tmp 32) (Operand.const (Value.int IntKind.i64 0)), type := 0, pos := "film.go:19", after := #[{ on := 4, ground := Ground.data }], guard := none }
def opsEx6 : Oper := { dst := some 34, op := Op.fieldAddr 33 (Operand.tmp 33) 1, type := 0, pos := "film.go:19", after := #[{ on := 5, ground := Ground.data }], guard := none }
def opsEx7 : Oper := { dst := some 35, op := Op.load 3 (Operand.tmp 34), type := 3, pos := "film.go:19", after := #[{ on := 6, ground := Ground.data }], guard := none }
def opsEx8 : Oper := { dst := some 36, op := Op.call { callee := Callee.value (Operand.func 21), args := #[Operand.tmp 31, Operand.tmp 35], argTypes := #[3, 3] }, type := 33, pos := "film.go:19", after := #[{ on := 3, ground := Ground.data }, { on := 7, ground := Ground.data }], guard := none }
def opsEx9 : Oper := { dst := some 9, op := Op.alloc 33, type := 0, pos := "film.go:19", after := #[], guard := none }
def opsEx10 : Oper := { dst := none, op := Op.store 33 (Operand.tmp 9) (Operand.tmp 36), type := 0, pos := "film.go:19", after := #[{ on := 9, ground := Ground.data }, { on := 8, ground := Ground.data }, { on := 8, ground := Ground.chain }, { on := 0, ground := Ground.phase }, { on := 1, ground := Ground.phase }, { on := 2, ground := Ground.phase }, { on := 3, ground := Ground.phase }, { on := 4, ground := Ground.phase }, { on := 5, ground := Ground.phase }, { on := 6, ground := Ground.phase }, { on := 7, ground := Ground.phase }, { on := 8, ground := Ground.phase }, { on := 9, ground := Ground.phase }], guard := none }
def opsE : Array Oper := #[opsEx0, opsEx1, opsEx2, opsEx3, opsEx4, opsEx5, opsEx6, opsEx7, opsEx8, opsEx9, opsEx10]
theorem atopsEx0 : opsE[0]? = some opsEx0 := rfl
theorem atopsEx1 : opsE[1]? = some opsEx1 := rfl
theorem atopsEx2 : opsE[2]? = some opsEx2 := rfl
theorem atopsEx3 : opsE[3]? = some opsEx3 := rfl
theorem atopsEx4 : opsE[4]? = some opsEx4 := rfl
theorem atopsEx5 : opsE[5]? = some opsEx5 := rfl
theorem atopsEx6 : opsE[6]? = some opsEx6 := rfl
theorem atopsEx7 : opsE[7]? = some opsEx7 := rfl
theorem atopsEx8 : opsE[8]? = some opsEx8 := rfl
theorem atopsEx9 : opsE[9]? = some opsEx9 := rfl
theorem atopsEx10 : opsE[10]? = some opsEx10 := rfl

set_option maxHeartbeats 1000000 in
theorem regionE {Q : Exit → Act → World → Prop} {a : Act} {w : World} (bb o N cap : Nat) (pa pb : Int) (cc : Option Addr → Nat → Array Value) (R : World → World → Option Addr → Nat → Prop) (hs : a.tmps.size = 78)
    (h0 : a.eval (.tmp 0) = (.slice (some ⟨bb, o, none⟩) N cap)) (hj : 0 < N) (hN : N ≤ 6) (hc0 : w.cell? ⟨bb, o, none⟩ = some (.int .i64 pa)) (hc1 : w.cell? ⟨bb, o + 1, none⟩ = some (.int .i64 pb))
    (hcs : ∀ ad cp, (cc ad cp).size = 3) (hone : ∀ ad cp, (cc ad cp).all (·.oneCell') = true)
    (hR1 : ∀ W W1 W2 ad cp, R W W1 ad cp → Below W1.heap.size W1 W2 → R W W2 ad cp)
    (hR2 : ∀ W W1 ad cp (x : Nat) cells {W2 : World}, R W W1 ad cp → Below W1.heap.size W1 W2 → W.heap.size ≤ W1.heap.size → R W (W2.setCells W1.heap.size 0 cells) ad cp)
    (hR3 : ∀ W W1 ad cp (x : Nat) cells, R W W1 ad cp → x < W.heap.size → R W (W1.setCells x 0 cells) ad cp)
    (KC : ∀ W, Below w.heap.size w W → Calls Tryz.prog 21 #[.int .i64 pa, .int .i64 pb] W fun e w' => ∃ ad cp, e = .returned (.agg (cc ad cp)) ∧ R W w' ad cp ∧ Below W.heap.size W w')
    (hQ : ∀ c a (d : Tmp) v w, Q (.panic c) (Act.put a (some d) v) w → Q (.panic c) a w)
    (hend : ∀ W W0 ad cp x, Below w.heap.size w W → Below w.heap.size w W0 → w.heap.size ≤ x → W.rangeAt x 0 (cc ad cp).toList → W.there x 0 3 → R W0 W ad cp → Q .normal ((((((((((a.put (some 28) (.slice (some ⟨bb, o, none⟩) N cap)).put (some 29) (.pointer (some ⟨bb, o, none⟩))).put (some 30) (.pointer (some ⟨bb, o, none⟩))).put (some 32) (.slice (some ⟨bb, o, none⟩) N cap)).put (some 33) (.pointer (some ⟨bb, o, none⟩))).put (some 34) (.pointer (some ⟨bb, o + 1, none⟩))).put (some 31) (.int .i64 pa)).put (some 35) (.int .i64 pb)).put (some 36) (.agg (cc ad cp))).put (some 9) (.pointer (some ⟨x, 0, none⟩))) W) :
    (Code.region 6 opsE true).wp Tryz.prog Q a w := by
  refine wp_region_held (S := fun W => Below w.heap.size w W) (by kernel_rfl) ?_
  show wpAnyH _ _ _ _ _ 11 (Array.replicate 11 false) a w.drew
  have hb0 : Below w.heap.size w w.drew := (Below.refl _ _).drew
  generalize w.drew = w0 at *
  refine anyH_take (i := 0) (d := 28) (v := (.slice (some ⟨bb, o, none⟩) N cap)) atopsEx0 rfl (by kernel_rfl) (by kernel_rfl) (by kernel_rfl) rfl hQ hb0 (fun W hW => (run_move rfl h0 W)) ?_
  refine anyH_take (i := 1) (d := 29) (v := (.pointer (some ⟨bb, o, none⟩))) atopsEx1 rfl (by kernel_rfl) (by kernel_rfl) (by kernel_rfl) rfl hQ hb0 (fun W hW => (run_index rfl (Act.ev_eq hs (by decide)) rfl (idx_pic0 bb o N cap W hj hN))) ?_
  refine anyH_take (i := 2) (d := 30) (v := (.pointer (some ⟨bb, o, none⟩))) atopsEx2 rfl (by kernel_rfl) (by kernel_rfl) (by kernel_rfl) rfl hQ hb0 (fun W hW => (run_field rfl (Act.ev_eq (Act.sz hs) (by decide)) (fld_pic0 bb o W))) ?_
  refine anyH_take (i := 4) (d := 32) (v := (.slice (some ⟨bb, o, none⟩) N cap)) atopsEx4 rfl (by kernel_rfl) (by kernel_rfl) (by kernel_rfl) rfl hQ hb0 (fun W hW => (run_move rfl (Act.ev_ne (by decide) (Act.ev_ne (by decide) (Act.ev_ne (by decide) h0))) W)) ?_
  refine anyH_take (i := 5) (d := 33) (v := (.pointer (some ⟨bb, o, none⟩))) atopsEx5 rfl (by kernel_rfl) (by kernel_rfl) (by kernel_rfl) rfl hQ hb0 (fun W hW => (run_index rfl (Act.ev_eq (Act.sz (Act.sz (Act.sz hs))) (by decide)) rfl (idx_pic0 bb o N cap W hj hN))) ?_
  refine anyH_take (i := 6) (d := 34) (v := (.pointer (some ⟨bb, o + 1, none⟩))) atopsEx6 rfl (by kernel_rfl) (by kernel_rfl) (by kernel_rfl) rfl hQ hb0 (fun W hW => (run_field rfl (Act.ev_eq (Act.sz (Act.sz (Act.sz (Act.sz hs)))) (by decide)) (fld_pic1 bb o W))) ?_
  refine anyH_take (i := 3) (d := 31) (v := (.int .i64 pa)) atopsEx3 rfl (by kernel_rfl) (by kernel_rfl) (by kernel_rfl) rfl hQ hb0 (fun W hW => (run_load rfl (Act.ev_ne (by decide) (Act.ev_ne (by decide) (Act.ev_ne (by decide) (Act.ev_eq (Act.sz (Act.sz hs)) (by decide))))) (load_intF bb o pa W (cell_below hW hc0)))) ?_
  refine anyH_take (i := 7) (d := 35) (v := (.int .i64 pb)) atopsEx7 rfl (by kernel_rfl) (by kernel_rfl) (by kernel_rfl) rfl hQ hb0 (fun W hW => (run_load rfl (Act.ev_ne (by decide) (Act.ev_eq (Act.sz (Act.sz (Act.sz (Act.sz (Act.sz hs))))) (by decide))) (load_intF bb (o + 1) pb W (cell_below hW hc1)))) ?_
  refine anyH_two (i := 8) (j := 9) (by kernel_rfl) atopsEx8 rfl atopsEx9 rfl (fun K hK => ?_) (fun K hK => ?_)
  · refine wp_call_at (R := fun v w' => ∃ ad cp, v = (.agg (cc ad cp)) ∧ R w0 w' ad cp ∧ Below w0.heap.size w0 w') #[.int .i64 pa, .int .i64 pb] (d := 36) rfl rfl (map_two (Act.ev_ne (by decide) (Act.ev_eq (Act.sz (Act.sz (Act.sz (Act.sz (Act.sz (Act.sz hs)))))) (by decide))) (Act.ev_eq (Act.sz (Act.sz (Act.sz (Act.sz (Act.sz (Act.sz (Act.sz hs))))))) (by decide))) (by go_simp) ((KC w0 hb0).mono fun e w' h => by obtain ⟨ad, cp, he, hr, hb⟩ := h; exact ⟨_, he, ad, cp, rfl, hr, hb⟩) (fun v w1 hv => ?_)
    obtain ⟨ad, cp, rfl, hr, hb⟩ := hv
    have hbw1 := below_two hb0 hb
    refine hK _ _ hbw1 ?_
    clear hK
    refine anyH_one (i := 9) (by kernel_rfl) atopsEx9 rfl (fun K hK => ?_)
    have hba := (Below.refl w1.heap.size w1).alloc (Nat.le_refl _) (.cells #[.int .i64 0, .int .i64 0, .slice none 0 0] 33)
    have hbw2 := below_two hbw1 hba
    refine wp_value_to (d := 9) rfl (run_alloc rfl (alloc_pic w1)) (hK _ _ hbw2 ?_)
    clear hK K
    have ht := there_new w1 #[.int .i64 0, .int .i64 0, .slice none 0 0] 33
    have hr2 := hR1 _ _ _ _ _ hr hba
    have hx := hbw1.size
    have hle := hb.size
    have hr3 := fun cells => hR2 w0 _ ad cp w1.heap.size cells hr hba hle
    generalize w1.alloc (.cells #[.int .i64 0, .int .i64 0, .slice none 0 0] 33) = w2 at *
    refine anyH_one (i := 10) (by kernel_rfl) atopsEx10 rfl (fun K hK => ?_)
    refine wp_store_at 33 _ _ rfl rfl w1.heap.size 0 (cc ad cp) (Act.ev_eq (Act.sz (Act.sz (Act.sz (Act.sz (Act.sz (Act.sz (Act.sz (Act.sz (Act.sz hs))))))))) (by decide)) (Act.ev_ne (by decide) (Act.ev_eq (Act.sz (Act.sz (Act.sz (Act.sz (Act.sz (Act.sz (Act.sz (Act.sz hs)))))))) (by decide))) (by rw [hcs]; exact ht) (by rw [hcs]; exact Tryz.sizePic) (hone _ _) (hK _ _ (sets_belowF hx _ _ _ hbw2) ?_)
    clear hK K
    have hth : w2.there w1.heap.size 0 (cc ad cp).size := by rw [hcs]; exact ht
    have hrg := World.rangeAt_setCells_same w2 w1.heap.size 0 (cc ad cp).toList (by rw [Array.length_toList]; exact hth)
    have htt := World.there_setCells (ht) w1.heap.size 0 (cc ad cp).toList
    exact wpAnyH_done (by kernel_rfl) (hend _ _ ad cp w1.heap.size (sets_belowF hx _ _ _ hbw2) hb0 hx hrg htt (hr3 _)) _
  · have hba := (Below.refl w0.heap.size w0).alloc (Nat.le_refl _) (.cells #[.int .i64 0, .int .i64 0, .slice none 0 0] 33)
    have hbw1 := below_two hb0 hba
    refine wp_value_to (d := 9) rfl (run_alloc rfl (alloc_pic w0)) (hK _ _ hbw1 ?_)
    clear hK
    have ht := there_new w0 #[.int .i64 0, .int .i64 0, .slice none 0 0] 33
    have hx := hb0.size
    have hlt : w0.heap.size < (w0.alloc (.cells #[.int .i64 0, .int .i64 0, .slice none 0 0] 33)).heap.size := by simp
    generalize w0.heap.size = x at *
    generalize w0.alloc (.cells #[.int .i64 0, .int .i64 0, .slice none 0 0] 33) = w1 at *
    refine anyH_one (i := 8) (by kernel_rfl) atopsEx8 rfl (fun K1 hK1 => ?_)
    refine wp_call_at (R := fun v w' => ∃ ad cp, v = (.agg (cc ad cp)) ∧ R w1 w' ad cp ∧ Below w1.heap.size w1 w') #[.int .i64 pa, .int .i64 pb] (d := 36) rfl rfl (map_two (Act.ev_ne (by decide) (Act.ev_ne (by decide) (Act.ev_eq (Act.sz (Act.sz (Act.sz (Act.sz (Act.sz (Act.sz hs)))))) (by decide)))) (Act.ev_ne (by decide) (Act.ev_eq (Act.sz (Act.sz (Act.sz (Act.sz (Act.sz (Act.sz (Act.sz hs))))))) (by decide)))) (by go_simp) ((KC w1 hbw1).mono fun e w' h => by obtain ⟨ad, cp, he, hr, hb⟩ := h; exact ⟨_, he, ad, cp, rfl, hr, hb⟩) (fun v w2 hv => ?_)
    obtain ⟨ad, cp, rfl, hr, hb⟩ := hv
    have hbw2 := below_two hbw1 hb
    refine hK1 _ _ hbw2 ?_
    clear hK1
    rw [Act.put_swap _ (.pointer (some ⟨x, 0, none⟩)) (.agg (cc ad cp)) (show (9 : Nat) ≠ 36 by decide)]
    have ht2 := there_below ht hb
    have hr3 := fun cells => hR3 w1 w2 ad cp x cells hr hlt
    refine anyH_one (i := 10) (by kernel_rfl) atopsEx10 rfl (fun K hK => ?_)
    refine wp_store_at 33 _ _ rfl rfl x 0 (cc ad cp) (Act.ev_eq (Act.sz (Act.sz (Act.sz (Act.sz (Act.sz (Act.sz (Act.sz (Act.sz (Act.sz hs))))))))) (by decide)) (Act.ev_ne (by decide) (Act.ev_eq (Act.sz (Act.sz (Act.sz (Act.sz (Act.sz (Act.sz (Act.sz (Act.sz hs)))))))) (by decide))) (by rw [hcs]; exact ht2) (by rw [hcs]; exact Tryz.sizePic) (hone _ _) (hK _ _ (sets_belowF hx _ _ _ hbw2) ?_)
    clear hK K
    have hth : w2.there x 0 (cc ad cp).size := by rw [hcs]; exact ht2
    have hrg := World.rangeAt_setCells_same w2 x 0 (cc ad cp).toList (by rw [Array.length_toList]; exact hth)
    have htt := World.there_setCells (ht2) x 0 (cc ad cp).toList
    exact wpAnyH_done (by kernel_rfl) (hend _ _ ad cp x (sets_belowF hx _ _ _ hbw2) hbw1 hx hrg htt (hr3 _)) _
end Go.Proofs.YtjhflcgphejddaaGreatDoor

namespace Go.Proofs.YtjhflcgphejddaaGreatDoor
open Go.RowKit
set_option linter.unusedVariables false
set_option maxRecDepth 100000

def opsFx0 : Oper := { dst := some 46, op := Op.load 33 (Operand.tmp 9), type := 33, pos := "film.go:22", after := #[], guard := none }
def opsFx1 : Oper := { dst := some 47, op := Op.move (Operand.tmp 0), type := 22, pos := "film.go:22", after := #[], guard := none }
def opsFx2 : Oper := { dst := some 48, op := Op.move (Operand.tmp 11), type := 3, pos := "film.go:22", after := #[], guard := none }
def opsFx3 : Oper := { dst := some 49, op := Op.indexAddr 22 (Operand.tmp 47) (Operand.tmp 48), type := 0, pos := "film.go:22", after := #[{ on := 1, ground := Ground.data }, { on := 2, ground := Ground.data }], guard := none }
def opsFx4 : Oper := { dst := some 50, op := Op.load 33 (Operand.tmp 49), type := 33, pos := "film.go:22", after := #[{ on := 3, ground := Ground.data }], guard := none }
def opsFx5 : Oper := { dst := some 51, op := Op.move (Operand.tmp 11), type := 3, pos := "film.go:22", after := #[], guard := none }
def opsFx6 : Oper := { dst := some 52, op := Op.move (Operand.tmp 1), type := 3, pos := "film.go:22", after := #[], guard := none }
def opsFx7 : Oper := { dst := some 53, op := Op.binOp BinOp.rem 3 (Operand.tmp 51) (Operand.tmp 52) 3, type := 3, pos := "film.go:22", after := #[{ on := 5, ground := Ground.data }, { on := 6, ground := Ground.data }], guard := none }
def opsFx8 : Oper := { dst := some 54, op := Op.binOp BinOp.eql 3 (Operand.tmp 53) (Operand.const (Value.int IntKind.i64 0)) 3, type := 4, pos := "film.go:22", after := #[{ on := 7, ground := Ground.data }], guard := none }
def opsFx9 : Oper := { dst := some 55, op := Op.move (Operand.tmp 2), type := 3, pos := "film.go:22", after := #[], guard := none }
def opsFx10 : Oper := { dst := some 56, op := Op.call { callee := Callee.value (Operand.func 22), args := #[Operand.tmp 46, Operand.tmp 50, Operand.tmp 54, Operand.tmp 55], argTypes := #[33, 33, 4, 3] }, type := 67, pos := "film.go:22", after := #[{ on := 0, ground := Ground.data }, { on := 4, ground := Ground.data }, { on := 8, ground := Ground.data }, { on := 9, ground := Ground.data }], guard := none }
def opsFx11 : Oper := { dst := some 45, op := Op.move (Operand.tmp 56), type := 67, pos := "film.go:22", after := #[{ on := 10, ground := Ground.data }], guard := none }
def opsFx12 : Oper := { dst := some 57, op := Op.extract (Operand.tmp 45) 0, type := 66, pos := "film.go:22", after := #[{ on := 11, ground := Ground.data }], guard := none }
def opsFx13 : Oper := { dst := some 58, op := Op.extract (Operand.tmp 45) 1, type := 27, pos := "film.go:22", after := #[{ on := 11, ground := Ground.data }, { on := 15, ground := Ground.gcOnly Departure.lateStores }], guard := none }
def opsFx14 : Oper := { dst := some 12, op := Op.alloc 66, type := 0, pos := "film.go:22", after := #[], guard := none }
def opsFx15 : Oper := { dst := none, op := Op.store 66 (Operand.tmp 12) (Operand.tmp 57), type := 0, pos := "film.go:22", after := #[{ on := 14, ground := Ground.data }, { on := 12, ground := Ground.data }, { on := 10, ground := Ground.chain }, { on := 0, ground := Ground.phase }, { on := 1, ground := Ground.phase }, { on := 2, ground := Ground.phase }, { on := 3, ground := Ground.phase }, { on := 4, ground := Ground.phase }, { on := 5, ground := Ground.phase }, { on := 6, ground := Ground.phase }, { on := 7, ground := Ground.phase }, { on := 8, ground := Ground.phase }, { on := 9, ground := Ground.phase }, { on := 10, ground := Ground.phase }, { on := 11, ground := Ground.phase }, { on := 12, ground := Ground.phase }, { on := 13, ground := Ground.textOnly Departure.lateStores }, { on := 14, ground := Ground.phase }], guard := none }
def opsFx16 : Oper := { dst := some 13, op := Op.assign (Operand.tmp 58), type := 27, pos := "film.go:22", after := #[{ on := 13, ground := Ground.data }, { on := 15, ground := Ground.chain }, { on := 0, ground := Ground.phase }, { on := 1, ground := Ground.phase }, { on := 2, ground := Ground.phase }, { on := 3, ground := Ground.phase }, { on := 4, ground := Ground.phase }, { on := 5, ground := Ground.phase }, { on := 6, ground := Ground.phase }, { on := 7, ground := Ground.phase }, { on := 8, ground := Ground.phase }, { on := 9, ground := Ground.phase }, { on := 10, ground := Ground.phase }, { on := 11, ground := Ground.phase }, { on := 12, ground := Ground.phase }, { on := 13, ground := Ground.phase }, { on := 14, ground := Ground.phase }, { on := 15, ground := Ground.phase }], guard := none }
def opsF : Array Oper := #[opsFx0, opsFx1, opsFx2, opsFx3, opsFx4, opsFx5, opsFx6, opsFx7, opsFx8, opsFx9, opsFx10, opsFx11, opsFx12, opsFx13, opsFx14, opsFx15, opsFx16]
theorem atopsFx0 : opsF[0]? = some opsFx0 := rfl
theorem atopsFx1 : opsF[1]? = some opsFx1 := rfl
theorem atopsFx2 : opsF[2]? = some opsFx2 := rfl
theorem atopsFx3 : opsF[3]? = some opsFx3 := rfl
theorem atopsFx4 : opsF[4]? = some opsFx4 := rfl
theorem atopsFx5 : opsF[5]? = some opsFx5 := rfl
theorem atopsFx6 : opsF[6]? = some opsFx6 := rfl
theorem atopsFx7 : opsF[7]? = some opsFx7 := rfl
theorem atopsFx8 : opsF[8]? = some opsFx8 := rfl
theorem atopsFx9 : opsF[9]? = some opsFx9 := rfl
theorem atopsFx10 : opsF[10]? = some opsFx10 := rfl
theorem atopsFx11 : opsF[11]? = some opsFx11 := rfl
theorem atopsFx12 : opsF[12]? = some opsFx12 := rfl
theorem atopsFx13 : opsF[13]? = some opsFx13 := rfl
theorem atopsFx14 : opsF[14]? = some opsFx14 := rfl
theorem atopsFx15 : opsF[15]? = some opsFx15 := rfl
theorem atopsFx16 : opsF[16]? = some opsFx16 := rfl
theorem rem_opsF {r : Operand → Value} {j E q : Nat} (h51 : r (.tmp 51) = .int .i64 j) (h52 : r (.tmp 52) = .int .i64 E) (hE : 1 ≤ E) (hE6 : E ≤ 6) (hj : j < 6) (hq : (j : Int).tmod (E : Int) = (q : Nat)) (w : World) : (execOp r opsFx7).run Tryz.prog w = .ok (.value (.int .i64 q)) w := by
  have h1 : ¬ (E : Int) = 0 := by omega
  have h2 : ((E : Int) == 0) = false := by rw [beq_eq_false_iff_ne]; omega
  have h3 : q < 6 := by have h := Int.emod_lt_of_pos (j : Int) (show (0 : Int) < (E : Int) by omega); rw [Int.tmod_eq_emod_of_nonneg (by omega)] at hq; omega
  unfold execOp opsFx7
  simp only [h51, h52]
  go_simp
  omega
theorem eql_opsF {r : Operand → Value} {q : Nat} {lone : Bool} (h53 : r (.tmp 53) = .int .i64 q) (hc : r (.const (.int .i64 0)) = .int .i64 0) (hl : ((q : Int) == 0) = lone) (w : World) : (execOp r opsFx8).run Tryz.prog w = .ok (.value (.bool lone)) w := by
  rw [← hl]
  unfold execOp opsFx8
  simp only [h53, hc]
  go_simp

set_option maxHeartbeats 1000000 in
theorem regionF {Q : Exit → Act → World → Prop} {a : Act} {w : World} (bb o N cap j E x9 q : Nat) (lone : Bool) (st : Int) (ca cp0 : Array Value) (er : Value) (cc : Option Addr → Nat → Array Value) (R : World → World → Option Addr → Nat → Prop) (hs : a.tmps.size = 78)
    (h0 : a.eval (.tmp 0) = (.slice (some ⟨bb, o, none⟩) N cap)) (h1 : a.eval (.tmp 1) = .int .i64 E) (h2 : a.eval (.tmp 2) = .int .i64 st) (h9 : a.eval (.tmp 9) = .pointer (some ⟨x9, 0, none⟩)) (h11 : a.eval (.tmp 11) = .int .i64 j) (hj : j < N) (hN : N ≤ 6) (hE : 1 ≤ E) (hE6 : E ≤ 6) (hq : (j : Int).tmod (E : Int) = (q : Nat)) (hl : ((q : Int) == 0) = lone) (hca : ca.size = 3) (hcp : cp0.size = 3) (hra : w.rangeAt x9 0 ca.toList) (hrp : w.rangeAt bb (o + j * 3) cp0.toList)
    (hcs : ∀ ad cp, (cc ad cp).size = 4) (hone : ∀ ad cp, (cc ad cp).all (·.oneCell') = true)
    (hR1 : ∀ W W1 W2 ad cp, R W W1 ad cp → Below W1.heap.size W1 W2 → R W W2 ad cp)
    (hR2 : ∀ W W1 ad cp (x : Nat) cells {W2 : World}, R W W1 ad cp → Below W1.heap.size W1 W2 → W.heap.size ≤ W1.heap.size → R W (W2.setCells W1.heap.size 0 cells) ad cp)
    (hR3 : ∀ W W1 ad cp (x : Nat) cells, R W W1 ad cp → x < W.heap.size → R W (W1.setCells x 0 cells) ad cp)
    (KC : ∀ W, Below w.heap.size w W → Calls Tryz.prog 22 #[.agg ca, .agg cp0, .bool lone, .int .i64 st] W fun e w' => ∃ ad cp, e = .returned (.tuple #[.agg (cc ad cp), er]) ∧ R W w' ad cp ∧ Below W.heap.size W w')
    (hQ : ∀ c a (d : Tmp) v w, Q (.panic c) (Act.put a (some d) v) w → Q (.panic c) a w)
    (hend : ∀ W W0 ad cp x, Below w.heap.size w W → Below w.heap.size w W0 → w.heap.size ≤ x → W.rangeAt x 0 (cc ad cp).toList → W.there x 0 4 → R W0 W ad cp → Q .normal ((((((((((((((((a.put (some 46) (.agg ca)).put (some 47) (.slice (some ⟨bb, o, none⟩) N cap)).put (some 48) (.int .i64 j)).put (some 49) (.pointer (some ⟨bb, o + j * 3, none⟩))).put (some 50) (.agg cp0)).put (some 51) (.int .i64 j)).put (some 52) (.int .i64 E)).put (some 53) (.int .i64 q)).put (some 54) (.bool lone)).put (some 55) (.int .i64 st)).put (some 56) (.tuple #[.agg (cc ad cp), er])).put (some 45) (.tuple #[.agg (cc ad cp), er])).put (some 57) (.agg (cc ad cp))).put (some 58) er).put (some 12) (.pointer (some ⟨x, 0, none⟩))).put (some 13) er) W) :
    (Code.region 11 opsF true).wp Tryz.prog Q a w := by
  refine wp_region_held (S := fun W => Below w.heap.size w W) (by kernel_rfl) ?_
  show wpAnyH _ _ _ _ _ 17 (Array.replicate 17 false) a w.drew
  have hb0 : Below w.heap.size w w.drew := (Below.refl _ _).drew
  generalize w.drew = w0 at *
  refine anyH_take (i := 0) (d := 46) (v := (.agg ca)) atopsFx0 rfl (by kernel_rfl) (by kernel_rfl) (by kernel_rfl) rfl hQ hb0 (fun W hW => (run_load rfl h9 (load_pic x9 0 ca W hca (range_below hra hW)))) ?_
  refine anyH_take (i := 1) (d := 47) (v := (.slice (some ⟨bb, o, none⟩) N cap)) atopsFx1 rfl (by kernel_rfl) (by kernel_rfl) (by kernel_rfl) rfl hQ hb0 (fun W hW => (run_move rfl (Act.ev_ne (by decide) h0) W)) ?_
  refine anyH_take (i := 2) (d := 48) (v := (.int .i64 j)) atopsFx2 rfl (by kernel_rfl) (by kernel_rfl) (by kernel_rfl) rfl hQ hb0 (fun W hW => (run_move rfl (Act.ev_ne (by decide) (Act.ev_ne (by decide) h11)) W)) ?_
  refine anyH_take (i := 3) (d := 49) (v := (.pointer (some ⟨bb, o + j * 3, none⟩))) atopsFx3 rfl (by kernel_rfl) (by kernel_rfl) (by kernel_rfl) rfl hQ hb0 (fun W hW => (run_index rfl (Act.ev_ne (by decide) (Act.ev_eq (Act.sz hs) (by decide))) (Act.ev_eq (Act.sz (Act.sz hs)) (by decide)) (idx_pic bb o N cap j W hj hN))) ?_
  refine anyH_take (i := 4) (d := 50) (v := (.agg cp0)) atopsFx4 rfl (by kernel_rfl) (by kernel_rfl) (by kernel_rfl) rfl hQ hb0 (fun W hW => (run_load rfl (Act.ev_eq (Act.sz (Act.sz (Act.sz hs))) (by decide)) (load_pic bb (o + j * 3) cp0 W hcp (range_below hrp hW)))) ?_
  refine anyH_take (i := 5) (d := 51) (v := (.int .i64 j)) atopsFx5 rfl (by kernel_rfl) (by kernel_rfl) (by kernel_rfl) rfl hQ hb0 (fun W hW => (run_move rfl (Act.ev_ne (by decide) (Act.ev_ne (by decide) (Act.ev_ne (by decide) (Act.ev_ne (by decide) (Act.ev_ne (by decide) h11))))) W)) ?_
  refine anyH_take (i := 6) (d := 52) (v := (.int .i64 E)) atopsFx6 rfl (by kernel_rfl) (by kernel_rfl) (by kernel_rfl) rfl hQ hb0 (fun W hW => (run_move rfl (Act.ev_ne (by decide) (Act.ev_ne (by decide) (Act.ev_ne (by decide) (Act.ev_ne (by decide) (Act.ev_ne (by decide) (Act.ev_ne (by decide) h1)))))) W)) ?_
  refine anyH_take (i := 7) (d := 53) (v := (.int .i64 q)) atopsFx7 rfl (by kernel_rfl) (by kernel_rfl) (by kernel_rfl) rfl hQ hb0 (fun W hW => (rem_opsF (Act.ev_ne (by decide) (Act.ev_eq (Act.sz (Act.sz (Act.sz (Act.sz (Act.sz hs))))) (by decide))) (Act.ev_eq (Act.sz (Act.sz (Act.sz (Act.sz (Act.sz (Act.sz hs)))))) (by decide)) hE hE6 (by omega) hq W)) ?_
  refine anyH_take (i := 8) (d := 54) (v := (.bool lone)) atopsFx8 rfl (by kernel_rfl) (by kernel_rfl) (by kernel_rfl) rfl hQ hb0 (fun W hW => (eql_opsF (Act.ev_eq (Act.sz (Act.sz (Act.sz (Act.sz (Act.sz (Act.sz (Act.sz hs))))))) (by decide)) rfl hl W)) ?_
  refine anyH_take (i := 9) (d := 55) (v := (.int .i64 st)) atopsFx9 rfl (by kernel_rfl) (by kernel_rfl) (by kernel_rfl) rfl hQ hb0 (fun W hW => (run_move rfl (Act.ev_ne (by decide) (Act.ev_ne (by decide) (Act.ev_ne (by decide) (Act.ev_ne (by decide) (Act.ev_ne (by decide) (Act.ev_ne (by decide) (Act.ev_ne (by decide) (Act.ev_ne (by decide) (Act.ev_ne (by decide) h2))))))))) W)) ?_
  refine anyH_two (i := 10) (j := 14) (by kernel_rfl) atopsFx10 rfl atopsFx14 rfl (fun K hK => ?_) (fun K hK => ?_)
  · refine wp_call_at (R := fun v w' => ∃ ad cp, v = (.tuple #[.agg (cc ad cp), er]) ∧ R w0 w' ad cp ∧ Below w0.heap.size w0 w') #[.agg ca, .agg cp0, .bool lone, .int .i64 st] (d := 56) rfl rfl (map_four (Act.ev_ne (by decide) (Act.ev_ne (by decide) (Act.ev_ne (by decide) (Act.ev_ne (by decide) (Act.ev_ne (by decide) (Act.ev_ne (by decide) (Act.ev_ne (by decide) (Act.ev_ne (by decide) (Act.ev_ne (by decide) (Act.ev_eq hs (by decide))))))))))) (Act.ev_ne (by decide) (Act.ev_ne (by decide) (Act.ev_ne (by decide) (Act.ev_ne (by decide) (Act.ev_ne (by decide) (Act.ev_eq (Act.sz (Act.sz (Act.sz (Act.sz hs)))) (by decide))))))) (Act.ev_ne (by decide) (Act.ev_eq (Act.sz (Act.sz (Act.sz (Act.sz (Act.sz (Act.sz (Act.sz (Act.sz hs)))))))) (by decide))) (Act.ev_eq (Act.sz (Act.sz (Act.sz (Act.sz (Act.sz (Act.sz (Act.sz (Act.sz (Act.sz hs))))))))) (by decide))) (by go_simp) ((KC w0 hb0).mono fun e w' h => by obtain ⟨ad, cp, he, hr, hb⟩ := h; exact ⟨_, he, ad, cp, rfl, hr, hb⟩) (fun v w1 hv => ?_)
    obtain ⟨ad, cp, rfl, hr, hb⟩ := hv
    have hbw1 := below_two hb0 hb
    refine hK _ _ hbw1 ?_
    clear hK
    refine anyH_take (i := 11) (d := 45) (v := (.tuple #[.agg (cc ad cp), er])) atopsFx11 rfl (by kernel_rfl) (by kernel_rfl) (by kernel_rfl) rfl hQ hbw1 (fun W hW => (run_move rfl (Act.ev_eq (Act.sz (Act.sz (Act.sz (Act.sz (Act.sz (Act.sz (Act.sz (Act.sz (Act.sz (Act.sz hs)))))))))) (by decide)) W)) ?_
    refine anyH_take (i := 12) (d := 57) (v := (.agg (cc ad cp))) atopsFx12 rfl (by kernel_rfl) (by kernel_rfl) (by kernel_rfl) rfl hQ hbw1 (fun W hW => (run_extract rfl (Act.ev_eq (Act.sz (Act.sz (Act.sz (Act.sz (Act.sz (Act.sz (Act.sz (Act.sz (Act.sz (Act.sz (Act.sz hs))))))))))) (by decide)) (ext_fst _ _ _ W))) ?_
    refine anyH_take (i := 13) (d := 58) (v := er) atopsFx13 rfl (by kernel_rfl) (by kernel_rfl) (by kernel_rfl) rfl hQ hbw1 (fun W hW => (run_extract rfl (Act.ev_ne (by decide) (Act.ev_eq (Act.sz (Act.sz (Act.sz (Act.sz (Act.sz (Act.sz (Act.sz (Act.sz (Act.sz (Act.sz (Act.sz hs))))))))))) (by decide))) (ext_snd _ _ _ W))) ?_
    refine anyH_one (i := 14) (by kernel_rfl) atopsFx14 rfl (fun K hK => ?_)
    have hba := (Below.refl w1.heap.size w1).alloc (Nat.le_refl _) (.cells #[.bool false, .int .i64 0, .int .i64 0, .slice none 0 0] 66)
    have hbw2 := below_two hbw1 hba
    refine wp_value_to (d := 12) rfl (run_alloc rfl (alloc_cod w1)) (hK _ _ hbw2 ?_)
    clear hK K
    have ht := there_new w1 #[.bool false, .int .i64 0, .int .i64 0, .slice none 0 0] 66
    have hr2 := hR1 _ _ _ _ _ hr hba
    have hx := hbw1.size
    have hle := hb.size
    have hr3 := fun cells => hR2 w0 _ ad cp w1.heap.size cells hr hba hle
    generalize w1.alloc (.cells #[.bool false, .int .i64 0, .int .i64 0, .slice none 0 0] 66) = w2 at *
    refine anyH_one (i := 15) (by kernel_rfl) atopsFx15 rfl (fun K hK => ?_)
    refine wp_store_at 66 _ _ rfl rfl w1.heap.size 0 (cc ad cp) (Act.ev_eq (Act.sz (Act.sz (Act.sz (Act.sz (Act.sz (Act.sz (Act.sz (Act.sz (Act.sz (Act.sz (Act.sz (Act.sz (Act.sz (Act.sz hs)))))))))))))) (by decide)) (Act.ev_ne (by decide) (Act.ev_ne (by decide) (Act.ev_eq (Act.sz (Act.sz (Act.sz (Act.sz (Act.sz (Act.sz (Act.sz (Act.sz (Act.sz (Act.sz (Act.sz (Act.sz hs)))))))))))) (by decide)))) (by rw [hcs]; exact ht) (by rw [hcs]; exact Tryz.sizeCod) (hone _ _) (hK _ _ (sets_belowF hx _ _ _ hbw2) ?_)
    clear hK K
    have hth : w2.there w1.heap.size 0 (cc ad cp).size := by rw [hcs]; exact ht
    have hrg := World.rangeAt_setCells_same w2 w1.heap.size 0 (cc ad cp).toList (by rw [Array.length_toList]; exact hth)
    have htt := World.there_setCells (ht) w1.heap.size 0 (cc ad cp).toList
    refine anyH_one (i := 16) (by kernel_rfl) atopsFx16 rfl (fun K hK => ?_)
    refine wp_value_at (d := 13) rfl (run_assign rfl (Act.ev_ne (by decide) (Act.ev_eq (Act.sz (Act.sz (Act.sz (Act.sz (Act.sz (Act.sz (Act.sz (Act.sz (Act.sz (Act.sz (Act.sz (Act.sz (Act.sz hs))))))))))))) (by decide))) _) (hK _ _ (sets_belowF hx _ _ _ hbw2) ?_)
    clear hK K
    exact wpAnyH_done (by kernel_rfl) (hend _ _ ad cp w1.heap.size (sets_belowF hx _ _ _ hbw2) hb0 hx hrg htt (hr3 _)) _
  · have hba := (Below.refl w0.heap.size w0).alloc (Nat.le_refl _) (.cells #[.bool false, .int .i64 0, .int .i64 0, .slice none 0 0] 66)
    have hbw1 := below_two hb0 hba
    refine wp_value_to (d := 12) rfl (run_alloc rfl (alloc_cod w0)) (hK _ _ hbw1 ?_)
    clear hK
    have ht := there_new w0 #[.bool false, .int .i64 0, .int .i64 0, .slice none 0 0] 66
    have hx := hb0.size
    have hlt : w0.heap.size < (w0.alloc (.cells #[.bool false, .int .i64 0, .int .i64 0, .slice none 0 0] 66)).heap.size := by simp
    generalize w0.heap.size = x at *
    generalize w0.alloc (.cells #[.bool false, .int .i64 0, .int .i64 0, .slice none 0 0] 66) = w1 at *
    refine anyH_one (i := 10) (by kernel_rfl) atopsFx10 rfl (fun K1 hK1 => ?_)
    refine wp_call_at (R := fun v w' => ∃ ad cp, v = (.tuple #[.agg (cc ad cp), er]) ∧ R w1 w' ad cp ∧ Below w1.heap.size w1 w') #[.agg ca, .agg cp0, .bool lone, .int .i64 st] (d := 56) rfl rfl (map_four (Act.ev_ne (by decide) (Act.ev_ne (by decide) (Act.ev_ne (by decide) (Act.ev_ne (by decide) (Act.ev_ne (by decide) (Act.ev_ne (by decide) (Act.ev_ne (by decide) (Act.ev_ne (by decide) (Act.ev_ne (by decide) (Act.ev_ne (by decide) (Act.ev_eq hs (by decide)))))))))))) (Act.ev_ne (by decide) (Act.ev_ne (by decide) (Act.ev_ne (by decide) (Act.ev_ne (by decide) (Act.ev_ne (by decide) (Act.ev_ne (by decide) (Act.ev_eq (Act.sz (Act.sz (Act.sz (Act.sz hs)))) (by decide)))))))) (Act.ev_ne (by decide) (Act.ev_ne (by decide) (Act.ev_eq (Act.sz (Act.sz (Act.sz (Act.sz (Act.sz (Act.sz (Act.sz (Act.sz hs)))))))) (by decide)))) (Act.ev_ne (by decide) (Act.ev_eq (Act.sz (Act.sz (Act.sz (Act.sz (Act.sz (Act.sz (Act.sz (Act.sz (Act.sz hs))))))))) (by decide)))) (by go_simp) ((KC w1 hbw1).mono fun e w' h => by obtain ⟨ad, cp, he, hr, hb⟩ := h; exact ⟨_, he, ad, cp, rfl, hr, hb⟩) (fun v w2 hv => ?_)
    obtain ⟨ad, cp, rfl, hr, hb⟩ := hv
    have hbw2 := below_two hbw1 hb
    refine hK1 _ _ hbw2 ?_
    clear hK1
    refine anyH_take (i := 11) (d := 45) (v := (.tuple #[.agg (cc ad cp), er])) atopsFx11 rfl (by kernel_rfl) (by kernel_rfl) (by kernel_rfl) rfl hQ hbw2 (fun W hW => (run_move rfl (Act.ev_eq (Act.sz (Act.sz (Act.sz (Act.sz (Act.sz (Act.sz (Act.sz (Act.sz (Act.sz (Act.sz (Act.sz hs))))))))))) (by decide)) W)) ?_
    refine anyH_take (i := 12) (d := 57) (v := (.agg (cc ad cp))) atopsFx12 rfl (by kernel_rfl) (by kernel_rfl) (by kernel_rfl) rfl hQ hbw2 (fun W hW => (run_extract rfl (Act.ev_eq (Act.sz (Act.sz (Act.sz (Act.sz (Act.sz (Act.sz (Act.sz (Act.sz (Act.sz (Act.sz (Act.sz (Act.sz hs)))))))))))) (by decide)) (ext_fst _ _ _ W))) ?_
    refine anyH_take (i := 13) (d := 58) (v := er) atopsFx13 rfl (by kernel_rfl) (by kernel_rfl) (by kernel_rfl) rfl hQ hbw2 (fun W hW => (run_extract rfl (Act.ev_ne (by decide) (Act.ev_eq (Act.sz (Act.sz (Act.sz (Act.sz (Act.sz (Act.sz (Act.sz (Act.sz (Act.sz (Act.sz (Act.sz (Act.sz hs)))))))))))) (by decide))) (ext_snd _ _ _ W))) ?_
    rw [Act.put_swap _ (.pointer (some ⟨x, 0, none⟩)) (.tuple #[.agg (cc ad cp), er]) (show (12 : Nat) ≠ 56 by decide), Act.put_swap _ (.pointer (some ⟨x, 0, none⟩)) (.tuple #[.agg (cc ad cp), er]) (show (12 : Nat) ≠ 45 by decide), Act.put_swap _ (.pointer (some ⟨x, 0, none⟩)) (.agg (cc ad cp)) (show (12 : Nat) ≠ 57 by decide), Act.put_swap _ (.pointer (some ⟨x, 0, none⟩)) er (show (12 : Nat) ≠ 58 by decide)]
    have ht2 := there_below ht hb
    have hr3 := fun cells => hR3 w1 w2 ad cp x cells hr hlt
    refine anyH_one (i := 15) (by kernel_rfl) atopsFx15 rfl (fun K hK => ?_)
    refine wp_store_at 66 _ _ rfl rfl x 0 (cc ad cp) (Act.ev_eq (Act.sz (Act.sz (Act.sz (Act.sz (Act.sz (Act.sz (Act.sz (Act.sz (Act.sz (Act.sz (Act.sz (Act.sz (Act.sz (Act.sz hs)))))))))))))) (by decide)) (Act.ev_ne (by decide) (Act.ev_ne (by decide) (Act.ev_eq (Act.sz (Act.sz (Act.sz (Act.sz (Act.sz (Act.sz (Act.sz (Act.sz (Act.sz (Act.sz (Act.sz (Act.sz hs)))))))))))) (by decide)))) (by rw [hcs]; exact ht2) (by rw [hcs]; exact Tryz.sizeCod) (hone _ _) (hK _ _ (sets_belowF hx _ _ _ hbw2) ?_)
    clear hK K
    have hth : w2.there x 0 (cc ad cp).size := by rw [hcs]; exact ht2
    have hrg := World.rangeAt_setCells_same w2 x 0 (cc ad cp).toList (by rw [Array.length_toList]; exact hth)
    have htt := World.there_setCells (ht2) x 0 (cc ad cp).toList
    refine anyH_one (i := 16) (by kernel_rfl) atopsFx16 rfl (fun K hK => ?_)
    refine wp_value_at (d := 13) rfl (run_assign rfl (Act.ev_ne (by decide) (Act.ev_eq (Act.sz (Act.sz (Act.sz (Act.sz (Act.sz (Act.sz (Act.sz (Act.sz (Act.sz (Act.sz (Act.sz (Act.sz (Act.sz hs))))))))))))) (by decide))) _) (hK _ _ (sets_belowF hx _ _ _ hbw2) ?_)
    clear hK K
    exact wpAnyH_done (by kernel_rfl) (hend _ _ ad cp x (sets_belowF hx _ _ _ hbw2) hbw1 hx hrg htt (hr3 _)) _
end Go.Proofs.YtjhflcgphejddaaGreatDoor

namespace Go.Proofs.YtjhflcgphejddaaGreatDoor
open Go.RowKit Go.Maps
set_option linter.unusedVariables false
set_option maxRecDepth 100000

/-- What was told last, in the block b, behind so many pictures: apart from the row u. -/
structure AhdS (w : World) (b : Nat) (a0 b0 : Int) (j n : Nat) (T : Nat → Nat → Int) (B : Nat) (u : Value) (sd : Option Addr) (sn sc : Nat) (f0 : Nat → Int) : Prop where
  p : PicIn w b a0 b0 (.slice sd sn sc)
  i : IntsIn w (.slice sd sn sc) sn f0
  e : 0 < j → sn = n ∧ f0 = T (j - 1)
  new : ∀ k, (Value.slice sd sn sc).ownBlock = some k → B ≤ k
  off : ∀ k, (Value.slice sd sn sc).ownBlock = some k → u.ownBlock ≠ some k

theorem cell_put3 {w : World} {b k o : Nat} {x y s u : Value} (h : w.cell? ⟨k, o, none⟩ = some u) (hne : k ≠ b) : (((w.setCell ⟨b, 0, none⟩ x).setCell ⟨b, 1, none⟩ y).setCell ⟨b, 2, none⟩ s).cell? ⟨k, o, none⟩ = some u := by
  rw [World.cell?_setCell_other _ _ _ _ (fun e => hne (congrArg Addr.block e).symm), World.cell?_setCell_other _ _ _ _ (fun e => hne (congrArg Addr.block e).symm), World.cell?_setCell_other _ _ _ _ (fun e => hne (congrArg Addr.block e).symm)]
  exact h

set_option maxHeartbeats 8000000 in
theorem fenc_ok {w : World} {v : Value} {N : Nat} {P : Nat → Pc} {ev st : Int} {A B : Nat} (h : PicsIn w v N P) (ok : FilOk N P ev st A B) :
    Calls Tryz.prog 5 #[v, .int .i64 ev, .int .i64 st] w fun e w' => ∃ u, e = .returned (.tuple #[u, .nilIface]) ∧ CodsIn w' u N (filC A B (P 0).n ev.toNat st fun i => (P i).f) ∧ Below w.heap.size w w' := by
  have K := hide (fcheck_ok h)
  obtain ⟨ad, cap, rfl, _, _, h3⟩ := h
  have h1N := ok.one
  have h6N := ok.six
  have s1 := ok.s1
  have s2 := ok.s2
  obtain ⟨E, rfl⟩ := Int.eq_ofNat_of_zero_le (show 0 ≤ ev by have := ok.e1; omega)
  have hE1 : 1 ≤ E := by have := ok.e1; omega
  have hE6 : E ≤ 6 := by have := ok.e6; omega
  have K1 := hide (fun w => fwithin_ok E 6 w)
  have K2 := hide (fun w => fwithin_ok st 64 w)
  rw [inOk_iff.2 ⟨ok.e1, ok.e6⟩] at K1
  rw [inOk_iff.2 ⟨s1, s2⟩] at K2
  have hz := enfF_zero.2 ⟨A, B, ok⟩
  have hcz : chqF N P = 0 := by
    unfold enfF at hz
    split at hz
    · rename_i c; exact absurd hz c
    · rename_i c; omega
  rw [hcz] at K
  obtain ⟨bb, o, rfl, hc⟩ := h3 (by omega)
  have HC := hide hc
  have HBb : Hid (bb < w.heap.size) := by obtain ⟨s9, h9, _⟩ := hc 0 (by omega); exact cell_lt h9
  obtain ⟨s0, hs0⟩ := hc 0 (by omega)
  rw [show o + 0 * 3 = o by omega] at hs0
  have HS0 : Hid (w.cell? ⟨bb, o, none⟩ = some (.int .i64 (P 0).a) ∧ w.cell? ⟨bb, o + 1, none⟩ = some (.int .i64 (P 0).b)) := ⟨hs0.1, hs0.2.1⟩
  rw [Int.toNat_natCast]
  have KA := hide (fun j hj W s sd sn sc f0 => fcode_fil ok (j := j) hj (W := W) (s := s) (sd := sd) (sn := sn) (sc := sc) (f0 := f0))
  have KB := hide (fun j hj W s sd sn sc f0 => ftell_fil ok (j := j) hj (W := W) (s := s) (sd := sd) (sn := sn) (sc := sc) (f0 := f0))
  have Hn := hide (fun j => filC_n (A := A) (B := B) (n := (P 0).n) (ev := E) (s := st) (g := fun i => (P i).f) (i := j))
  have HAl := hide (fun j => filC_alone (A := A) (B := B) (n := (P 0).n) (ev := E) (s := st) (g := fun i => (P i).f) (i := j))
  have HLk := hide (fun j (hj : j < N) => (ok.like hj).2)
  have Hp0 : Hid (0 < (P 0).n) := (ok.pic 0 (by omega)).pos
  generalize hTT : filT A B (P 0).n E st (fun i => (P i).f) = T at *
  generalize hCC : filC A B (P 0).n E st (fun i => (P i).f) = C at *
  obtain ⟨i0, hi0, hz0, hz1, hz2⟩ := info_parts Tryz.infoCod
  have Hi := hide hi0
  have Hz0 := hide hz0
  have Hz1 := hide hz1
  have Hz2 := hide hz2
  have hmk : ∃ mc : Array Value, mc.size = N * 4 ∧ ∀ W : World, (Instr.makeSlice 25 (.int .i64 0) (.int .i64 (N : Int))).run Tryz.prog W = .ok (.slice (some ⟨W.heap.size, 0, none⟩) 0 N) (W.alloc (.cells mc 66)) := by
    refine ⟨_, size_madeCells (Value.cells (.agg #[.bool false, .int .i64 0, .int .i64 0, .slice none 0 0])) (N * 4), fun W => ?_⟩
    have hr := run_make (P := Tryz.prog) W 25 66 i0 _ Tryz.underlying25 hi0 hz0 .i64 .i64 0 N (Int.le_refl _) (by omega) (by rw [hz2]; omega) (by omega)
    simp only [Int.toNat_zero, Int.toNat_natCast, hz1] at hr
    exact hr
  obtain ⟨mc, hms, hmk⟩ := hmk
  have HMS := hide hms
  clear hc hs0 h3 hi0 hz0 hz1 hz2 ok hTT hCC hz hcz hms
  generalize hpn : (P 0).n = pn at *
  generalize hpa : (P 0).a = pa at *
  generalize hpb : (P 0).b = pb at *
  clear hpn hpa hpb
  go_enter Tryz.func5, Tryz.ntmps5
  go_wp2_with fail
  refine (K.out).mono ?_
  rintro e w1 ⟨rfl, hb1⟩
  rw [errN_zero]
  have HB1 := hide hb1
  clear hb1 K
  go_wp2_with fail
  refine (K1.out _).mono ?_
  rintro e w2 ⟨rfl, rfl⟩
  go_wp2_with fail
  refine (K2.out _).mono ?_
  rintro e w2 ⟨rfl, rfl⟩
  clear K1 K2
  go_upto_region 6 with fail
  have c0 := cell_below HB1.out HS0.out.1
  have c1 := cell_below HB1.out HS0.out.2
  refine regionE bb o N cap pa pb (fun _ _ => #[.int .i64 pa, .int .i64 pb, .slice none 0 0]) (fun _ _ _ _ => True) rfl rfl h1N h6N c0 c1 (fun _ _ => rfl) (fun _ _ => all_oneCell_toArray (cs := [.int .i64 pa, .int .i64 pb, .slice none 0 0]) (fun x hx => by simp at hx; rcases hx with rfl | rfl | rfl <;> rfl)) (fun _ _ _ _ _ _ _ => trivial) (fun _ _ _ _ _ _ _ _ _ _ => trivial) (fun _ _ _ _ _ _ _ _ => trivial) (fun W hW => (funseen_ok pa pb W).mono fun e w' ⟨he, hb⟩ => ⟨none, 0, he, trivial, hb⟩) (fun _ _ _ _ _ h => h) ?_
  intro w6 _ _ _ xa hb6 _ hxa hrg hth _
  have hP6 := pic_agg hrg hth
  have HP6 := hide hP6
  have HB6 := hide (below_two HB1.out hb6)
  have hxa2 : xa < w6.heap.size := hP6.lt
  have hxw : w.heap.size ≤ xa := Nat.le_trans HB1.out.size hxa
  clear c0 c1 hrg hth hb6 hP6 hxa
  simp only [Act.put]
  have hmk6 := hmk w6
  have O6 := World.ownsRow_made (base := w6.heap.size) (e := 66) (size := 4) w6 mc N (Nat.le_refl _) (by unfold maxLen; omega) HMS.out
  have HP7 := hide (HP6.out.below ((Below.refl w6.heap.size w6).alloc (Nat.le_refl _) (.cells mc 66)))
  have HB7 : Hid (Below w.heap.size w (w6.alloc (.cells mc 66))) := below_two HB6.out ((Below.refl w6.heap.size w6).alloc (Nat.le_refl _) (.cells mc 66))
  have HR7 : Hid (CodR (w6.alloc (.cells mc 66)) w6.heap.size (.slice (some ⟨w6.heap.size, 0, none⟩) 0 N) 0 C) :=
    ⟨fun _ => .slice none 0 0, O6, fun i hi => absurd hi (Nat.not_lt_zero _), fun i hi => absurd hi (Nat.not_lt_zero _), fun i hi => absurd hi (Nat.not_lt_zero _), fun i hi => absurd hi (Nat.not_lt_zero _)⟩
  have hsz7 : w6.heap.size ≤ (w6.alloc (.cells mc 66)).heap.size := by simp
  have HZ7 := hide hsz7
  clear O6 hmk hsz7
  go_wp2
  generalize hBB : w6.heap.size = BB at *
  go_loopw [10, 42] (fun u i wr => ∃ (j : Nat) (adu : Option Addr) (cpu : Nat) (sd : Option Addr) (sn sc : Nat) (f0 : Nat → Int), j ≤ N ∧ i = .int .i64 j ∧ u = .slice adu j cpu ∧ Hid (CodR wr BB u j C) ∧ Hid (AhdS wr xa pa pb j pn T BB u sd sn sc f0) ∧ Hid (BB ≤ wr.heap.size) ∧ Below w.heap.size w wr) (fun _ i _ => N - (intOf i).toNat)
  case atStart => exact ⟨0, _, _, none, 0, 0, fun _ => 0, Nat.zero_le _, rfl, rfl, HR7, ⟨HP7.out, Or.inl ⟨rfl, _, _, rfl⟩, fun h => absurd h (Nat.lt_irrefl _), fun k e => (by cases e), fun k e => (by cases e)⟩, HZ7, HB7.out⟩
  case round =>
    obtain ⟨j, adu, cpu, sd, sn, sc, f0, hj, rfl, rfl, HR, HAh, HZr, hb⟩ := hrel
    have HB := hide hb
    clear hb
    by_cases hlt : j < N
    · obtain ⟨s, hs⟩ := HC.out j hlt
      obtain ⟨e0, e1, e2, hi⟩ := hs.below HB.out
      obtain ⟨lea, leb, len⟩ := HLk.out j hlt
      have HI := hide hi
      obtain ⟨ads, cps, rfl⟩ := slice_shape hi
      have hAp := HAh.out.p
      obtain ⟨⟨a0, _⟩, ⟨a1, _⟩, a2, _⟩ := hAp
      have KA1 := hide (fun W (hW : Below wr.heap.size wr W) => KA.out j hlt W (.slice ads (P j).n cps) sd sn sc f0 (HI.out.below hW) (HAh.out.i.below hW) HAh.out.e)
      have KB1 := hide (fun W (hW : Below wr.heap.size wr W) s2 (h2 : IntsIn W s2 pn (C j).f) => KB.out j hlt W s2 sd sn sc f0 h2 (HAh.out.i.below hW) HAh.out.e)
      have hal := HAl.out j
      have HCn := hide (Hn.out j)
      have HCe : Hid (C j = ⟨(C j).al, (C j).x, (C j).y, (C j).n, (C j).f⟩) := rfl
      rw [HCn.out] at HCe
      rw [lea, leb] at KA1
      rw [lea] at e0
      rw [leb] at e1
      rw [len] at e2 KA1
      generalize hTj : T j = Tj at *
      have HTj := hide hTj
      generalize (C j).al = al at *
      generalize (C j).x = X at *
      generalize (C j).y = Y at *
      generalize (C j).f = F at *
      clear hs hi lea leb len hTj HI
      have hq : ((j : Int)).tmod (E : Int) = ((j % E : Nat) : Int) := by rw [Int.tmod_eq_emod_of_nonneg (by omega)]; exact (Int.natCast_emod j E).symm
      have hl : (((j % E : Nat) : Int) == 0) = al := by
        cases al with
        | true => rw [hal.1 rfl]; rfl
        | false =>
          rw [beq_eq_false_iff_ne]
          intro h0
          have h1 : j % E = 0 := by omega
          have := hal.2 h1
          cases this
      generalize j % E = q at *
      clear hal
      go_upto_region 11 with fail
      refine regionF bb o N cap j E xa q al st #[.int .i64 pa, .int .i64 pb, .slice sd sn sc] #[.int .i64 pa, .int .i64 pb, .slice ads pn cps] .nilIface (fun ad cp => #[.bool al, .int .i64 X, .int .i64 Y, .slice ad pn cp]) (fun W W' ad cp => IntsIn W' (.slice ad pn cp) pn F ∧ ∀ k, (Value.slice ad pn cp).ownBlock = some k → W.heap.size ≤ k) rfl rfl rfl rfl rfl rfl hlt h6N hE1 hE6 hq hl rfl rfl (agg_pic a0 a1 a2) (agg_pic e0 e1 e2) (fun _ _ => rfl) (fun ad cp => all_oneCell_toArray (cs := [.bool al, .int .i64 X, .int .i64 Y, .slice ad pn cp]) (fun x hx => by simp at hx; rcases hx with rfl | rfl | rfl | rfl <;> rfl))
        (fun W W1 W2 ad cp h hb => ⟨h.1.below hb, h.2⟩) (fun W W1 ad cp x cells W2 h hb hle => ?_) (fun W W1 ad cp x cells h hlt => ⟨ints_sets (w := W1) (fun k e => by have := h.2 k e; omega) _ _ _ h.1, h.2⟩) (fun W hW => (KA1.out W hW).mono fun e w' ⟨ad, cp, he, hi, hb, hn⟩ => ⟨ad, cp, he, ⟨hi, hn⟩, hb⟩) (fun _ _ _ _ _ h => h) ?_
      · refine ⟨?_, h.2⟩
        rcases h.1 with h0 | ⟨h0, g, og, c', e, hc⟩
        · exact Or.inl h0
        · have h9 := h.1.below hb
          refine ints_sets (w := W2) (fun k e2 => ?_) _ _ _ h9
          have := ints_lt h.1 h0 k e2
          omega
      intro W W0 ad cp xc hbW hbW0 hxc hrg hth hRR
      obtain ⟨hI, hnI⟩ := hRR
      simp only [Act.put]
      have hzr := HZr.out
      have hW0 := hbW0.size
      have k0 : W.cell? ⟨xc, 0, none⟩ = some (.bool al) := by simpa using hrg 0 _ rfl
      have k1 : W.cell? ⟨xc, 1, none⟩ = some (.int .i64 X) := by simpa using hrg 1 _ rfl
      have k2 : W.cell? ⟨xc, 2, none⟩ = some (.int .i64 Y) := by simpa using hrg 2 _ rfl
      have k3 : W.cell? ⟨xc, 3, none⟩ = some (.slice ad pn cp) := by simpa using hrg 3 _ rfl
      have hlc : xc < W.heap.size := cell_lt k0
      have HBW := hide hbW
      have HT := hide (KB1.out W hbW (.slice ad pn cp) hI)
      have HIW := hide hI
      have HNI : Hid (∀ k, (Value.slice ad pn cp).ownBlock = some k → wr.heap.size ≤ k) := fun k e => by have := hnI k e; omega
      have HOB : Hid (∀ k, (Value.slice adu j cpu).ownBlock = some k → k < wr.heap.size) := fun k e => by obtain ⟨S, hS⟩ := HR.out; exact (hS.own.lt k e).2
      have HAW := hide (HAh.out.p.below hbW)
      have a0 := cell_below hbW a0
      have a1 := cell_below hbW a1
      have a2 := cell_below hbW a2
      have hxn : xc ≠ xa := by omega
      have hWr := hbW.size
      clear hrg hth hI hnI hbW hbW0 hW0 KA1 KB1 e0 e1 e2 hq hl
      go_wp2_with fail
      refine (HT.out).mono ?_
      rintro e w2 ⟨ad2, cp2, rfl, hi2, hb2, hn2⟩
      obtain ⟨⟨a0, g0⟩, ⟨a1, g1⟩, a2, g2⟩ := HAW.out.below hb2
      have hW2 := hb2.size
      have hne2 : ∀ k, (Value.slice ad2 pn cp2).ownBlock = some k → k ≠ xa := fun k e => by have := hn2 k e; omega
      have hne1 : ∀ k, (Value.slice ad pn cp).ownBlock = some k → k ≠ xa := fun k e => by have := HNI.out k e; omega
      obtain ⟨W3, hW3⟩ : ∃ W3, W3 = (((w2.setCell ⟨xa, 0, none⟩ (.int .i64 pa)).setCell ⟨xa, 1, none⟩ (.int .i64 pb)).setCell ⟨xa, 2, none⟩ (.slice ad2 pn cp2)) := ⟨_, rfl⟩
      have HP3 : Hid (PicIn W3 xa pa pb (.slice ad2 pn cp2)) := hW3 ▸ (HAW.out.below hb2).put pa pb (.slice ad2 pn cp2)
      have d0 : W3.cell? ⟨xc, 0, none⟩ = some (.bool al) := hW3 ▸ cell_put3 (cell_below hb2 k0) hxn
      have d1 : W3.cell? ⟨xc, 1, none⟩ = some (.int .i64 X) := hW3 ▸ cell_put3 (cell_below hb2 k1) hxn
      have d2 : W3.cell? ⟨xc, 2, none⟩ = some (.int .i64 Y) := hW3 ▸ cell_put3 (cell_below hb2 k2) hxn
      have d3 : W3.cell? ⟨xc, 3, none⟩ = some (.slice ad pn cp) := hW3 ▸ cell_put3 (cell_below hb2 k3) hxn
      have HI3 : Hid (IntsIn W3 (.slice ad pn cp) pn F) := hW3 ▸ ints_set (o := 2) (ints_set (o := 1) (ints_set (o := 0) (HIW.out.below hb2) hne1 (.int .i64 pa)) hne1 (.int .i64 pb)) hne1 (.slice ad2 pn cp2)
      have HT3 : Hid (IntsIn W3 (.slice ad2 pn cp2) pn Tj) := hW3 ▸ ints_set (o := 2) (ints_set (o := 1) (ints_set (o := 0) hi2 hne2 (.int .i64 pa)) hne2 (.int .i64 pb)) hne2 (.slice ad2 pn cp2)
      have HR3 : Hid (CodR W3 BB (.slice adu j cpu) j C) := hW3 ▸ ((((HR.out.below HBW.out).below hb2).set hxa2 0 (.int .i64 pa)).set hxa2 1 (.int .i64 pb)).set hxa2 2 (.slice ad2 pn cp2)
      have HB3 : Hid (Below w.heap.size w W3) := hW3 ▸ (((below_two (below_two HB.out HBW.out) hb2).setCell (p := ⟨xa, 0, none⟩) hxw (.int .i64 pa)).setCell (p := ⟨xa, 1, none⟩) hxw (.int .i64 pb)).setCell (p := ⟨xa, 2, none⟩) hxw (.slice ad2 pn cp2)
      have hz3 : W3.heap.size = w2.heap.size := by rw [hW3]; simp
      have HN2 : Hid (∀ k, (Value.slice ad2 pn cp2).ownBlock = some k → wr.heap.size ≤ k) := fun k e => by have := hn2 k e; omega
      clear hi2 hb2 hn2 hne1 hne2 k0 k1 k2 k3
      go_upto_region 17 with fail
      rw [← hW3]
      clear hW3 a0 a1 a2 g0 g1 g2
      obtain ⟨S, hS⟩ := HR3.out
      have HSx := hide hS
      clear hS
      have hszc : BB ≤ W3.heap.size := by omega
      have HZ3 := hide hz3
      clear hz3
      go_wp2_with (at_builtin; refine wpList_append_lies _ rfl _ _ 25 rfl BB 66 i0 (.agg #[.bool false, .int .i64 0, .int .i64 0, .slice none 0 0]) 4 48 Tryz.underlying25 Hi.out Hz0.out Hz1.out Hz2.out rfl (by decide) _ _ _ rfl (HSx.out.own.alloc _) ⟨W3.heap.size, 0, none⟩ 1 1 [.bool al, .int .i64 X, .int .i64 Y, .slice ad pn cp] rfl rfl (World.news_of_block (cs := #[.bool al, .int .i64 X, .int .i64 Y, .slice ad pn cp]) (t := 66) (fr := (0, 0)) (heap_alloc_new W3 _)) (fun x hx => by simp at hx; rcases hx with rfl | rfl | rfl | rfl <;> rfl) (by decide) (by unfold maxLen; omega) (by omega) (by simp; omega) _ rfl ?_; intro g3 cap3 w5 hown3 hgrow3 hat3 hlt3)
      go_roundw
      case rel =>
        have hB5 : Below BB W3 w5 := ((Below.refl BB W3).alloc (by omega) _).grown hgrow3 (by simp; omega) (fun q hq => (HSx.out.own.lt q hq).1)
        have HCR : Hid (CodR w5 BB (.slice (some ⟨g3, 0, none⟩) (j + 1) cap3) (j + 1) C) := by
          refine CodR.snoc (s := .slice ad pn cp) HSx.out ?_ hgrow3 hat3 ?_ (fun k e => ?_) (fun k e e2 => ?_)
          · rw [HCe.out]; exact hown3
          · rw [HCe.out]; exact HI3.out
          · have := HNI.out k e; omega
          · have h1 := HNI.out k e; have h2 := HOB.out k e2; omega
        have HLs : Hid (AhdS w5 xa pa pb (j + 1) pn T BB (.slice (some ⟨g3, 0, none⟩) (j + 1) cap3) ad2 pn cp2 Tj) := by
          refine ⟨HP3.out.mono hB5 hxa2, ?_, fun _ => ⟨rfl, by rw [Nat.add_sub_cancel, HTj.out]⟩, fun k e => ?_, fun k e e2 => ?_⟩
          · refine ints_other HT3.out (fun h0 k e => ?_)
            have hk := ints_lt HT3.out h0 k e
            have h1 := HN2.out k e
            rw [hgrow3.block k (by simp; omega) (fun e2 => by have h2 := HOB.out k e2.symm; omega)]
            exact ((Below.refl W3.heap.size W3).alloc (Nat.le_refl _) _).block k hk
          · have := HN2.out k e; omega
          · have e3 : g3 = k := by simpa [Value.ownBlock] using e2
            subst e3
            have h1 := HN2.out g3 e
            have hz3 := HZ3.out
            rcases hat3 with hat | hat
            · have h2 := HOB.out g3 hat; omega
            · have hk := ints_lt HT3.out Hp0.out g3 e
              have hat' : g3 = W3.heap.size + 1 := by rw [hat]; simp
              omega
        have HZ5 : Hid (BB ≤ w5.heap.size) := Nat.le_trans hszc hB5.size
        have R : j + 1 ≤ N ∧ Value.int .i64 ((j : Int) + 1) = .int .i64 ((j + 1 : Nat) : Int) ∧ Value.slice (some ⟨g3, 0, none⟩) (j + 1) cap3 = .slice (some ⟨g3, 0, none⟩) (j + 1) cap3 ∧ Hid (CodR w5 BB (.slice (some ⟨g3, 0, none⟩) (j + 1) cap3) (j + 1) C) ∧ Hid (AhdS w5 xa pa pb (j + 1) pn T BB (.slice (some ⟨g3, 0, none⟩) (j + 1) cap3) ad2 pn cp2 Tj) ∧ Hid (BB ≤ w5.heap.size) ∧ Below w.heap.size w w5 :=
          ⟨by omega, by simp, rfl, HCR, HLs, HZ5, HB3.out.trans (hB5.mono (by omega))⟩
        first
          | exact ⟨j + 1, some ⟨g3, 0, none⟩, cap3, ad2, pn, cp2, Tj, R⟩
          | ((repeat apply Exists.intro); exact ⟨⟨j + 1, some ⟨g3, 0, none⟩, cap3, ad2, pn, cp2, Tj, R⟩, rfl⟩)
      case measure => simp [intOf]; omega
    · obtain rfl : j = N := by omega
      go_wp2
      go_ret2
      exact ⟨_, rfl, HR.out.cods, HB.out⟩
end Go.Proofs.YtjhflcgphejddaaGreatDoor

namespace Go.Proofs.YtjhflcgphejddaaGreatDoor
set_option linter.unusedVariables false
set_option maxRecDepth 100000

/-- The number behind n. -/
def nxt (n : Int) : Int := 16807 * n % 2147483647
/-- A number that has one behind it. -/
def Num (n : Int) : Prop := 1 ≤ n ∧ n ≤ 2147483646
theorem Num.nxt {n : Int} (h : Num n) : Num (nxt n) := by
  obtain ⟨h1, h2⟩ := h
  unfold Num Proofs.YtjhflcgphejddaaGreatDoor.nxt
  omega
theorem nxt_back {n : Int} (h : Num n) : nxt n * 1407677000 % 2147483647 = n := by
  obtain ⟨h1, h2⟩ := h
  unfold nxt
  omega
/-- The k-th number behind n. -/
def rowV (n : Int) : Nat → Int
  | 0 => n
  | k + 1 => nxt (rowV n k)
theorem Num.rowV {n : Int} (h : Num n) : ∀ k, Num (rowV n k)
  | 0 => h
  | k + 1 => (Num.rowV h k).nxt
end Go.Proofs.YtjhflcgphejddaaGreatDoor

namespace Go.Proofs.YtjhflcgphejddaaGreatDoor
open Go.RowKit
set_option linter.unusedVariables false
set_option maxRecDepth 100000

theorem may_ok (n : Int) (w : World) (h : Num n) : Calls Tryz.prog 114 #[.int .i64 n] w fun e w' => e = .returned (.bool true) ∧ w = w' := by
  obtain ⟨h1, h2⟩ := h
  go_enter Tryz.func114, Tryz.ntmps114
  go_wp2
  go_ret
  exact ⟨ret_bool (by simp <;> omega), rfl⟩
theorem may_not (n : Int) (w : World) (h : n < 1 ∨ 2147483646 < n) : Calls Tryz.prog 114 #[.int .i64 n] w fun e w' => e = .returned (.bool false) ∧ w = w' := by
  rcases h with h | h
  · go_enter Tryz.func114, Tryz.ntmps114
    go_wp2
    go_ret
    exact ⟨ret_bool (by first | rfl | simp <;> omega), rfl⟩
  · go_enter Tryz.func114, Tryz.ntmps114
    go_wp2
    go_ret
    exact ⟨ret_bool (by first | rfl | simp <;> omega), rfl⟩
theorem step_ok (n : Int) (w : World) (h : Num n) : Calls Tryz.prog 115 #[.int .i64 n] w fun e w' => e = .returned (.int .i64 (nxt n)) ∧ w = w' := by
  obtain ⟨h1, h2⟩ := h
  go_enter Tryz.func115, Tryz.ntmps115
  go_wp2
  go_ret
  exact ⟨ret_int (by unfold nxt; first | rfl | omega), rfl⟩

theorem below_ok (n b : Int) (w : World) (h : Num n) (h1 : 1 ≤ b) (h2 : b ≤ 1000) : Calls Tryz.prog 63 #[.int .i64 n, .int .i64 b] w fun e w' => e = .returned (.tuple #[.int .i64 (nxt n % b), .int .i64 (nxt n), .nilIface]) ∧ w = w' := by
  have M := hide (may_ok n w h)
  have S := hide (step_ok n w h)
  obtain ⟨h3, h4⟩ := h.nxt
  generalize nxt n = x at *
  go_enter Tryz.func63, Tryz.ntmps63
  go_wp2_with fail
  refine (M.out).mono ?_
  rintro e w1 ⟨rfl, rfl⟩
  go_wp2_with fail
  refine (S.out).mono ?_
  rintro e w1 ⟨rfl, rfl⟩
  go_wp2
  go_ret3
  exact ⟨rfl, rfl⟩
theorem below_range (n b : Int) (w : World) (h : ¬ Num n ∨ b < 1 ∨ 1000 < b) : Calls Tryz.prog 63 #[.int .i64 n, .int .i64 b] w fun e w' => e = .returned (.tuple #[.int .i64 0, .int .i64 0, .iface 61 (.int .i64 1)]) ∧ w = w' := by
  by_cases hn : Num n
  · have M := hide (may_ok n w hn)
    by_cases hb : b < 1
    · go_enter Tryz.func63, Tryz.ntmps63
      go_wp2_with fail
      refine (M.out).mono ?_
      rintro e w1 ⟨rfl, rfl⟩
      go_wp2
      go_ret3
      exact ⟨rfl, rfl⟩
    · have hb2 : 1000 < b := by
        rcases h with h | h | h
        · exact absurd hn h
        · omega
        · exact h
      clear h hn
      go_enter Tryz.func63, Tryz.ntmps63
      go_wp2_with fail
      refine (M.out).mono ?_
      rintro e w1 ⟨rfl, rfl⟩
      go_wp2
      go_ret3
      exact ⟨rfl, rfl⟩
  · have M := hide (may_not n w (by unfold Num at hn; omega))
    clear h hn
    go_enter Tryz.func63, Tryz.ntmps63
    go_wp2_with fail
    refine (M.out).mono ?_
    rintro e w1 ⟨rfl, rfl⟩
    go_wp2
    go_ret3
    exact ⟨rfl, rfl⟩
end Go.Proofs.YtjhflcgphejddaaGreatDoor
