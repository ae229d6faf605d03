/-
  Lemmas for the law above, joined into one text (IntsL, BmW, ErrK, FlC, FlDb, PicE, AlE0). No statement is proved here.
-/
import Derived.Test.YtjhflcgphejddaaGreatDoorZG0
import Derived.Test.YtjhflcgphejddaaGreatDoorZG4
import Derived.Test.YtjhflcgphejddaaGreatDoorZG3
import Derived.Test.YtjhflcgphejddaaGreatDoorZG2
import Derived.Deep.OwnRows
import Derived.Test.YtjhflcgphejddaaGreatDoorZG1
import Derived.Deep.DeepCutAuto
import Derived.Laws.Cover1
namespace Go.Proofs.YtjhflcgphejddaaGreatDoor
open Go.RowKit
set_option linter.unusedVariables false
set_option maxRecDepth 100000

theorem ints_mono {w w' : World} {B : Nat} {v : Value} {n : Nat} {f : Nat → Int} (h : IntsIn w v n f) (hb : Below B w w') (hl : ∀ k, v.ownBlock = some k → k < B) : IntsIn w' v n f := by
  rcases h with h | ⟨h0, b, o, c, rfl, hc⟩
  · exact Or.inl h
  · exact Or.inr ⟨h0, b, o, c, rfl, fun i hi => (hb.cell (hl b rfl)).trans (hc i hi)⟩
theorem ints_lt {w : World} {v : Value} {n : Nat} {f : Nat → Int} (h : IntsIn w v n f) (h0 : 0 < n) : ∀ k, v.ownBlock = some k → k < w.heap.size := by
  rcases h with ⟨h, _⟩ | ⟨_, b, o, c, rfl, hc⟩
  · omega
  · intro k e
    have e' : b = k := by simpa [Value.ownBlock] using e
    subst e'
    exact cell_lt (hc 0 h0)
end Go.Proofs.YtjhflcgphejddaaGreatDoor

namespace Go.Proofs.YtjhflcgphejddaaGreatDoor
open Go.RowKit
set_option linter.unusedVariables false
set_option maxRecDepth 100000

theorem put_zero {w : World} {b n : Nat} {t : TypeId} {L : List Int} (h : w.rowIs b t n (fun _ => .int .u8 0)) : BRow w b n (fun k => UInt8.ofNat (putB L 0 k)) := fun i hi => ⟨by show _ = some (Value.int .u8 ((UInt8.ofNat (putB L 0 i)).toNat : Int)); rw [putB_zero]; exact h.cell hi, h.frozen i⟩

set_option maxHeartbeats 2000000 in
theorem whole_ok {w : World} {v : Value} {L : List Int} (h : IntsIn w v L.length (fun k => L.getD k 0)) (hL : ∀ b ∈ L, b = 0 ∨ b = 1) (hn : L.length ≤ 1000000) :
    Calls Tryz.prog 26 #[v] w fun e w' => ∃ g, e = .returned (.slice (some ⟨g, 0, none⟩) (octs L) (octs L)) ∧ w.heap.size ≤ g ∧ (g < w'.heap.size ∨ octs L = 0) ∧ BRow w' g (octs L) (fun k => UInt8.ofNat (octN L k)) ∧ Below w.heap.size w w' := by
  have HI := hide h
  have HL := hide hL
  obtain ⟨n, hnn⟩ : ∃ n, n = L.length := ⟨_, rfl⟩
  obtain ⟨ad, cap, rfl⟩ : ∃ ad cp, v = .slice ad n cp := by
    rcases h with ⟨e, a, cap, rfl⟩ | ⟨h0, b, o, cap, rfl, hc⟩
    · exact ⟨_, _, by rw [hnn, e]⟩
    · exact ⟨_, _, by rw [hnn]⟩
  rw [← hnn] at HI hn
  have HN := hide hnn
  obtain ⟨M, hM⟩ : ∃ M, M = octs L := ⟨_, rfl⟩
  have hM8 : M = (n + 7) / 8 := by rw [hM, hnn]; rfl
  have hMe : ((n : Int) + 7).tdiv 8 = (M : Int) := by rw [Int.tdiv_eq_ediv_of_nonneg (by omega), hM8]; omega
  have hMe2 : ((n : Int) + 7) / 8 = (M : Int) := by rw [hM8]; omega
  rw [← hM]
  have HM := hide hM
  have HM8 := hide hM8
  have hM2 : M ≤ 1000000 := by omega
  have hmk := run_make_row' (P := Tryz.prog) 74 5 (.int .u8 0) 1 Tryz.underlying74 Tryz.infoU8 rfl .i64 .i64 M (by omega) (by omega)
  clear h hL hnn hM hM8
  go_enter Tryz.func26, Tryz.ntmps26
  go_wp2
  go_loopw [12] (fun i wr => ∃ j : Nat, j ≤ n ∧ i = .int .i64 j ∧ Hid (BRow wr w.heap.size M (fun k => UInt8.ofNat (putB L j k))) ∧ Hid (Below w.heap.size w wr)) (fun i _ => n - (intOf i).toNat)
  case atStart => exact ⟨0, Nat.zero_le _, rfl, put_zero (World.rowIs_made _ _ _ _), (Below.refl _ _).alloc (Nat.le_refl _) _⟩
  case round =>
    obtain ⟨j, hj, rfl, HR, HB⟩ := hrel
    by_cases hlt : j < n
    · obtain ⟨p, r, hpr, hr8⟩ : ∃ p r, j = 8 * p + r ∧ r < 8 := ⟨j / 8, j % 8, by omega, by omega⟩
      have hpM : p < M := by have := HM8.out; omega
      obtain ⟨bb, oo, cpv, hv, hcj⟩ : ∃ bb oo cp, Value.slice ad n cap = .slice (some ⟨bb, oo, none⟩) n cp ∧ wr.cell? ⟨bb, oo + j, none⟩ = some (.int .i64 (L.getD j 0)) := by
        rcases HI.out.below HB.out with ⟨rfl, _⟩ | ⟨h0, b, o, cap, e, hc⟩
        · omega
        · exact ⟨b, o, cap, e, hc j hlt⟩
      obtain ⟨rfl, rfl⟩ : ad = some ⟨bb, oo, none⟩ ∧ cap = cpv := by cases hv; exact ⟨rfl, rfl⟩
      have hz := bits_getD HL.out j
      obtain ⟨z, hze, hz1⟩ : ∃ z : Nat, L.getD j 0 = (z : Int) ∧ z ≤ 1 := by
        rcases hz with h | h
        · exact ⟨0, by rw [h]; rfl, by omega⟩
        · exact ⟨1, by rw [h]; rfl, by omega⟩
      have hnx := putB_next HL.out hze hz1
      have hot := fun k => putB_other (L := L) (i := j) (k := k)
      rw [show j / 8 = p by omega] at hnx hot
      rw [show j % 8 = r by omega] at hnx
      have hlp := putB_lt HL.out j p
      have hlp2 := putB_lt HL.out (j + 1) p
      rw [hze] at hcj
      obtain ⟨hcell, hfr⟩ := HR.out p hpM
      rw [u8_of hlp] at hcell
      have d1 : ((j : Nat) : Int).tdiv 8 = (p : Int) := by rw [Int.tdiv_eq_ediv_of_nonneg (by omega)]; omega
      have d2 : ((j : Nat) : Int) / 8 = (p : Int) := by omega
      have d3 : ((j : Nat) : Int).tmod 8 = (r : Int) := by rw [Int.tmod_eq_emod_of_nonneg (by omega)]; omega
      have d4 : ((j : Nat) : Int) % 8 = (r : Int) := by omega
      obtain ⟨c, hc⟩ : ∃ c, c = 7 - r := ⟨_, rfl⟩
      have hc7 : c ≤ 7 := by omega
      have d5 : (7 : Int) - (r : Int) = (c : Int) := by omega
      rw [← hc] at hnx
      have hset := HR.out.set p (UInt8.ofNat (putB L (j + 1) p))
      rw [u8_of hlp2] at hset
      have HS : Hid (BRow (wr.setCell ⟨w.heap.size, p, none⟩ (.int .u8 ((putB L (j + 1) p : Nat) : Int))) w.heap.size M (fun k => UInt8.ofNat (putB L (j + 1) k))) := hset.congr (fun i _ => by
        by_cases e : i = p
        · rw [if_pos e, e]
        · rw [if_neg e, hot i e])
      obtain ⟨Z, hZ⟩ : ∃ Z, Z = z <<< c := ⟨_, rfl⟩
      rw [← hZ] at hnx
      have hsh : Z ≤ 128 := by
        rw [hZ, Nat.shiftLeft_eq]
        have h1 : 2 ^ c ≤ 2 ^ 7 := Nat.pow_le_pow_right (by omega) hc7
        exact Nat.le_trans (Nat.mul_le_mul hz1 h1) (by decide)
      have hq : ((z : Nat) : Int) * 2 ^ c % 256 = ((Z : Nat) : Int) := by
        have e : ((z : Nat) : Int) * 2 ^ c = ((Z : Nat) : Int) := by rw [hZ, Nat.shiftLeft_eq, Int.natCast_mul, Int.natCast_pow]; rfl
        rw [e]; omega
      have hor := u8_or_nat (putB L j p) Z hlp (by omega)
      rw [← hnx] at hor
      have hB9 : Hid (Below w.heap.size w (wr.setCell ⟨w.heap.size, p, none⟩ (.int .u8 ((putB L (j + 1) p : Nat) : Int)))) := HB.out.setCell (Nat.le_refl _) _
      generalize putB L j p = x at *
      generalize putB L (j + 1) p = y at *
      have u1 : IntKind.u8.wrap ((z : Nat) : Int) = ((z : Nat) : Int) := by rw [IntKind.wrap_u8]; omega
      clear hv hz hpr hc hset hot hnx hsh hZ
      go_wp2
      go_region
      all_goals go_wp2
      all_goals go_roundw
      case rel =>
        first
          | exact ⟨j + 1, by omega, by go_num, HS.out, hB9.out.drew⟩
          | (refine ⟨_, ⟨j + 1, by omega, by go_num, HS.out, hB9.out.drew⟩, rfl⟩)
      case measure => simp [intOf]; omega
    · obtain rfl : j = n := by omega
      have HE : Hid (BRow wr w.heap.size M (fun k => UInt8.ofNat (octN L k))) := HR.out.congr (fun i _ => by rw [HN.out, putB_all])
      have hs := HB.out.size
      have HZ : Hid (w.heap.size < wr.heap.size ∨ M = 0) := by
        by_cases c : M = 0
        · exact Or.inr c
        · exact Or.inl (cell_lt (HE.out 0 (by omega)).1)
      go_wp2
      go_ret
      exact ⟨w.heap.size, rfl, Nat.le_refl _, HZ.out, HE.out, HB.out⟩
end Go.Proofs.YtjhflcgphejddaaGreatDoor

namespace Go.Proofs.YtjhflcgphejddaaGreatDoor
open Go.RowKit
set_option linter.unusedVariables false
set_option maxRecDepth 100000

/-- The error that stands for a number: nil for 0. -/
def errN (f : Nat) : Value := if f = 0 then .nilIface else .iface 61 (.int .i64 f)
theorem errN_pos {k : Nat} (h : k ≠ 0) : errN k = .iface 61 (.int .i64 k) := by unfold errN; rw [if_neg h]
theorem errN_zero : errN 0 = .nilIface := rfl
theorem errN_one : errN 1 = .iface 61 (.int .i64 1) := rfl
theorem errN_three : errN 3 = .iface 61 (.int .i64 3) := rfl
end Go.Proofs.YtjhflcgphejddaaGreatDoor

namespace Go.Proofs.YtjhflcgphejddaaGreatDoor
open Go.RowKit
set_option linter.unusedVariables false
set_option maxRecDepth 100000

theorem fcount_ok (n : Nat) (w : World) : Calls Tryz.prog 46 #[.int .i64 n] w fun e w' => e = .returned (errN (cntF n)) ∧ w = w' := by
  by_cases h0 : n = 0
  · subst h0
    go_enter Tryz.func46, Tryz.ntmps46
    go_wp2
    go_ret
    exact ⟨rfl, rfl⟩
  · have hne : ((n : Int) == 0) = false := by rw [beq_eq_false_iff_ne]; omega
    by_cases h6 : 6 < n
    · have HE : Hid (cntF n = 4) := by unfold Hid cntF; rw [if_neg h0, if_pos h6]
      go_enter Tryz.func46, Tryz.ntmps46
      go_wp2
      go_ret
      exact ⟨by rw [HE.out]; rfl, rfl⟩
    · have HE : Hid (cntF n = 0) := by unfold Hid cntF; rw [if_neg h0, if_neg h6]
      go_enter Tryz.func46, Tryz.ntmps46
      go_wp2
      go_ret
      exact ⟨by rw [HE.out]; rfl, rfl⟩
def inOk (n m : Int) : Bool := decide (1 ≤ n) && decide (n ≤ m)
theorem inOk_iff {n m : Int} : inOk n m = true ↔ 1 ≤ n ∧ n ≤ m := by simp [inOk]
theorem inOk_not {n m : Int} : inOk n m = false ↔ n < 1 ∨ m < n := by rw [← Bool.not_eq_true, inOk_iff]; omega
theorem fwithin_ok (n m : Int) (w : World) : Calls Tryz.prog 20 #[.int .i64 n, .int .i64 m] w fun e w' => e = .returned (.bool (inOk n m)) ∧ w = w' := by
  rcases Int.lt_or_le n 1 with h | h
  · go_enter Tryz.func20, Tryz.ntmps20
    go_wp2
    go_ret
    exact ⟨ret_bool (inOk_not.2 (Or.inl h)).symm, rfl⟩
  · rcases Int.lt_or_le m n with k | k
    · go_enter Tryz.func20, Tryz.ntmps20
      go_wp2
      go_ret
      exact ⟨ret_bool (by first | exact (inOk_not.2 (Or.inr k)).symm | (rw [Bool.eq_iff_iff, inOk_iff, decide_eq_true_iff]; omega)), rfl⟩
    · go_enter Tryz.func20, Tryz.ntmps20
      go_wp2
      go_ret
      exact ⟨ret_bool (by first | exact (inOk_iff.2 ⟨h, k⟩).symm | (rw [Bool.eq_iff_iff, inOk_iff, decide_eq_true_iff]; omega)), rfl⟩
theorem funseen_ok (a b : Int) (w : World) : Calls Tryz.prog 21 #[.int .i64 a, .int .i64 b] w fun e w' => e = .returned (.agg #[.int .i64 a, .int .i64 b, .slice none 0 0]) ∧ Below w.heap.size w w' := by
  have p1 := picIn_new w 0 0 (.slice none 0 0)
  have HB : Hid (Below w.heap.size w (w.alloc (.cells #[.int .i64 0, .int .i64 0, .slice none 0 0] 33))) := (Below.refl _ _).alloc (Nat.le_refl _) _
  obtain ⟨⟨c0, g0⟩, ⟨c1, g1⟩, c2, g2⟩ := p1
  go_enter Tryz.func21, Tryz.ntmps21
  go_wp2
  refine bodyPost_ret (v := .agg #[.int .i64 a, .int .i64 b, .slice none 0 0]) (by simp [results, Tryz.results21, go_sem]) rfl ⟨rfl, ?_⟩
  first
    | exact (((HB.out.setCell (Nat.le_refl _) _).setCell (Nat.le_refl _) _).setCell (Nat.le_refl _) _)
    | exact HB.out
    | exact (Below.refl _ _).alloc (Nat.le_refl _) _
end Go.Proofs.YtjhflcgphejddaaGreatDoor

namespace Go.Proofs.YtjhflcgphejddaaGreatDoor
open Go.RowKit
set_option linter.unusedVariables false
set_option maxRecDepth 100000

theorem seeF_cnt {a b s : Int} {N : Nat} {C : Nat → Cd} (h : cntF N ≠ 0) : seeF a b s N C = cntF N := by
  unfold cntF at h ⊢
  unfold seeF
  by_cases h0 : N = 0
  · rw [if_pos h0, if_pos h0]
  · by_cases h6 : 6 < N
    · rw [if_neg h0, if_pos h6, if_neg h0, if_pos h6]
    · rw [if_neg h0, if_neg h6] at h; exact absurd rfl h
theorem sidF_in {a b s : Int} : sidF a b s = if ((inOk a 6 && inOk b 6) && inOk s 64) = true then 0 else 1 := by
  unfold sidF
  by_cases h : ((inOk a 6 && inOk b 6) && inOk s 64) = true
  · rw [if_pos h]
    rw [Bool.and_eq_true, Bool.and_eq_true, inOk_iff, inOk_iff, inOk_iff] at h
    rw [if_pos ⟨h.1.1.1, h.1.1.2, h.1.2.1, h.1.2.2, h.2.1, h.2.2⟩]
  · rw [if_neg h, if_neg]
    intro h2
    apply h
    rw [Bool.and_eq_true, Bool.and_eq_true, inOk_iff, inOk_iff, inOk_iff]
    exact ⟨⟨⟨h2.1, h2.2.1⟩, ⟨h2.2.2.1, h2.2.2.2.1⟩⟩, h2.2.2.2.2⟩
theorem seeF_sid {a b s : Int} {N : Nat} {C : Nat → Cd} (h1 : 1 ≤ N) (h6 : N ≤ 6) (h : sidF a b s ≠ 0) : seeF a b s N C = 1 := by
  unfold seeF
  rw [if_neg (by omega), if_neg (by omega), if_pos h]
theorem seeF_al {a b s : Int} {N : Nat} {C : Nat → Cd} (h1 : 1 ≤ N) (h6 : N ≤ 6) (h : sidF a b s = 0) (ha : (C 0).al = false) : seeF a b s N C = 3 := by
  unfold seeF
  rw [if_neg (by omega), if_neg (by omega), if_neg (by omega), if_pos ha]
theorem seeF_see {a b s : Int} {N : Nat} {C : Nat → Cd} (h1 : 1 ≤ N) (h6 : N ≤ 6) (h : sidF a b s = 0) (ha : (C 0).al = true) : seeF a b s N C = (seeS a b s C N).1 := by
  unfold seeF
  rw [if_neg (by omega), if_neg (by omega), if_neg (by omega), if_neg (by rw [ha]; simp)]

set_option maxHeartbeats 2000000 in
theorem fdec_bad {w : World} {v : Value} {N : Nat} {C : Nat → Cd} (a b st : Int) (h : CodsIn w v N C) (hx : cntF N ≠ 0 ∨ sidF a b st ≠ 0 ∨ (C 0).al = false) :
    Calls Tryz.prog 16 #[.int .i64 a, .int .i64 b, .int .i64 st, v] w fun e w' => e = .returned (.tuple #[.slice none 0 0, errN (seeF a b st N C)]) ∧ Below w.heap.size w w' := by
  have K := hide (fun w => fcount_ok N w)
  obtain ⟨ad, cap, rfl, _, _, h3⟩ := h
  by_cases hc : cntF N = 0
  · obtain ⟨h1, h6⟩ := cntF_zero.1 hc
    obtain ⟨bb, o, rfl, hcs⟩ := h3 (by omega)
    obtain ⟨s0, hs0⟩ := hcs 0 (by omega)
    rw [show o + 0 * 4 = o by omega] at hs0
    obtain ⟨c0, _, _, _, _⟩ := hs0
    rw [hc] at K
    have hx2 := hx.resolve_left (by omega)
    clear hcs h3 hx hc
    have K1 := hide (fun w => fwithin_ok a 6 w)
    have K2 := hide (fun w => fwithin_ok b 6 w)
    have K3 := hide (fun w => fwithin_ok st 64 w)
    cases q1 : inOk a 6 with
    | false =>
      have HE := hide (seeF_sid (C := C) h1 h6 (by rw [sidF_in (a := a) (b := b) (s := st), q1]; simp))
      rw [q1] at K1
      clear hx2 q1 K2 K3
      go_enter Tryz.func16, Tryz.ntmps16
      go_wp2_with fail
      refine (K.out _).mono ?_
      rintro e w1 ⟨rfl, rfl⟩
      rw [errN_zero]
      go_wp2_with fail
      refine (K1.out _).mono ?_
      rintro e w2 ⟨rfl, rfl⟩
      go_wp2
      go_ret2
      exact ⟨by rw [HE.out]; rfl, Below.refl _ _⟩
    | true =>
      rw [q1] at K1
      cases q2 : inOk b 6 with
      | false =>
        have HE := hide (seeF_sid (C := C) h1 h6 (by rw [sidF_in (a := a) (b := b) (s := st), q1, q2]; simp))
        rw [q2] at K2
        clear hx2 q1 q2 K3
        go_enter Tryz.func16, Tryz.ntmps16
        go_wp2_with fail
        refine (K.out _).mono ?_
        rintro e w1 ⟨rfl, rfl⟩
        rw [errN_zero]
        go_wp2_with fail
        refine (K1.out _).mono ?_
        rintro e w2 ⟨rfl, rfl⟩
        go_wp2_with fail
        refine (K2.out _).mono ?_
        rintro e w2 ⟨rfl, rfl⟩
        go_wp2
        go_ret2
        exact ⟨by rw [HE.out]; rfl, Below.refl _ _⟩
      | true =>
        rw [q2] at K2
        cases q3 : inOk st 64 with
        | false =>
          have HE := hide (seeF_sid (C := C) h1 h6 (by rw [sidF_in (a := a) (b := b) (s := st), q1, q2, q3]; simp))
          rw [q3] at K3
          clear hx2 q1 q2 q3
          go_enter Tryz.func16, Tryz.ntmps16
          go_wp2_with fail
          refine (K.out _).mono ?_
          rintro e w1 ⟨rfl, rfl⟩
          rw [errN_zero]
          go_wp2_with fail
          refine (K1.out _).mono ?_
          rintro e w2 ⟨rfl, rfl⟩
          go_wp2_with fail
          refine (K2.out _).mono ?_
          rintro e w2 ⟨rfl, rfl⟩
          go_wp2_with fail
          refine (K3.out _).mono ?_
          rintro e w2 ⟨rfl, rfl⟩
          go_wp2
          go_ret2
          exact ⟨by rw [HE.out]; rfl, Below.refl _ _⟩
        | true =>
          have hs : sidF a b st = 0 := by rw [sidF_in, q1, q2, q3]; rfl
          have ha := hx2.resolve_left (by omega)
          have HE := hide (seeF_al (C := C) h1 h6 hs ha)
          rw [ha] at c0
          rw [q3] at K3
          clear hx2 q1 q2 q3 hs ha
          go_enter Tryz.func16, Tryz.ntmps16
          go_wp2_with fail
          refine (K.out _).mono ?_
          rintro e w1 ⟨rfl, rfl⟩
          rw [errN_zero]
          go_wp2_with fail
          refine (K1.out _).mono ?_
          rintro e w2 ⟨rfl, rfl⟩
          go_wp2_with fail
          refine (K2.out _).mono ?_
          rintro e w2 ⟨rfl, rfl⟩
          go_wp2_with fail
          refine (K3.out _).mono ?_
          rintro e w2 ⟨rfl, rfl⟩
          go_wp2
          go_ret2
          exact ⟨by rw [HE.out]; rfl, Below.refl _ _⟩
  · have HE := hide (seeF_cnt (a := a) (b := b) (s := st) (C := C) hc)
    have HN := hide (errN_pos hc)
    clear h3 hx
    generalize cntF N = k at *
    clear hc
    go_enter Tryz.func16, Tryz.ntmps16
    go_wp2_with fail
    refine (K.out _).mono ?_
    rintro e w1 ⟨rfl, rfl⟩
    rw [HN.out]
    go_wp2
    go_ret2
    exact ⟨by rw [HE.out, HN.out]; rfl, Below.refl _ _⟩
end Go.Proofs.YtjhflcgphejddaaGreatDoor

namespace Go.Proofs.YtjhflcgphejddaaGreatDoor
open Go.RowKit
set_option linter.unusedVariables false
set_option maxRecDepth 100000

def sideOk (n : Int) : Bool := decide (1 ≤ n) && decide (n ≤ 6)
def pixelOk (n : Int) : Bool := decide (0 ≤ n) && decide (n ≤ 255)
def farOk (n : Int) : Bool := decide (-6 ≤ n) && decide (n ≤ 6)
theorem sideOk_iff {n : Int} : sideOk n = true ↔ 1 ≤ n ∧ n ≤ 6 := by simp [sideOk]
theorem sideOk_not {n : Int} : sideOk n = false ↔ n < 1 ∨ 6 < n := by rw [← Bool.not_eq_true, sideOk_iff]; omega
theorem pixelOk_iff {n : Int} : pixelOk n = true ↔ 0 ≤ n ∧ n ≤ 255 := by simp [pixelOk]
theorem pixelOk_not {n : Int} : pixelOk n = false ↔ n < 0 ∨ 255 < n := by rw [← Bool.not_eq_true, pixelOk_iff]; omega
theorem farOk_iff {n : Int} : farOk n = true ↔ -6 ≤ n ∧ n ≤ 6 := by simp [farOk]
theorem farOk_not {n : Int} : farOk n = false ↔ n < -6 ∨ 6 < n := by rw [← Bool.not_eq_true, farOk_iff]; omega
theorem sides_two {a b : Int} : sidesOk a b = (sideOk a && sideOk b) := by
  simp [sidesOk, sideOk, Bool.and_assoc]

theorem pside_ok (n : Int) (w : World) : Calls Tryz.prog 84 #[.int .i64 n] w fun e w' => e = .returned (.bool (sideOk n)) ∧ w = w' := by
  rcases Int.lt_or_le n 1 with h | h
  · go_enter Tryz.func84, Tryz.ntmps84
    go_wp2
    go_ret
    exact ⟨ret_bool (sideOk_not.2 (Or.inl h)).symm, rfl⟩
  · rcases Int.lt_or_le 6 n with k | k
    · go_enter Tryz.func84, Tryz.ntmps84
      go_wp2
      go_ret
      exact ⟨ret_bool (by first | exact (sideOk_not.2 (Or.inr k)).symm | (rw [Bool.eq_iff_iff, sideOk_iff, decide_eq_true_iff]; omega)), rfl⟩
    · go_enter Tryz.func84, Tryz.ntmps84
      go_wp2
      go_ret
      exact ⟨ret_bool (sideOk_iff.2 ⟨h, k⟩).symm, rfl⟩
theorem ppixel_ok (n : Int) (w : World) : Calls Tryz.prog 87 #[.int .i64 n] w fun e w' => e = .returned (.bool (pixelOk n)) ∧ w = w' := by
  rcases Int.lt_or_le n 0 with h | h
  · go_enter Tryz.func87, Tryz.ntmps87
    go_wp2
    go_ret
    exact ⟨ret_bool (pixelOk_not.2 (Or.inl h)).symm, rfl⟩
  · rcases Int.lt_or_le 255 n with k | k
    · go_enter Tryz.func87, Tryz.ntmps87
      go_wp2
      go_ret
      exact ⟨ret_bool (by first | exact (pixelOk_not.2 (Or.inr k)).symm | (rw [Bool.eq_iff_iff, pixelOk_iff, decide_eq_true_iff]; omega)), rfl⟩
    · go_enter Tryz.func87, Tryz.ntmps87
      go_wp2
      go_ret
      exact ⟨ret_bool (pixelOk_iff.2 ⟨h, k⟩).symm, rfl⟩
end Go.Proofs.YtjhflcgphejddaaGreatDoor

namespace Go.Proofs.YtjhflcgphejddaaGreatDoor
open Go.RowKit
set_option linter.unusedVariables false
set_option maxRecDepth 100000

theorem astep_ok (n : Int) (w : World) : Calls Tryz.prog 93 #[.int .i64 n] w fun e w' => e = .returned (.bool (stepOk n)) ∧ w = w' := by
  rcases Int.lt_or_le n 1 with h | h
  · go_enter Tryz.func93, Tryz.ntmps93
    go_wp2
    go_ret
    exact ⟨ret_bool (stepOk_not.2 (Or.inl h)).symm, rfl⟩
  · rcases Int.lt_or_le 64 n with k | k
    · go_enter Tryz.func93, Tryz.ntmps93
      go_wp2
      go_ret
      exact ⟨ret_bool (by first | exact (stepOk_not.2 (Or.inr k)).symm | (rw [Bool.eq_iff_iff, stepOk_iff, decide_eq_true_iff]; omega)), rfl⟩
    · go_enter Tryz.func93, Tryz.ntmps93
      go_wp2
      go_ret
      exact ⟨ret_bool (stepOk_iff.2 ⟨h, k⟩).symm, rfl⟩
theorem aapart_ok (n : Int) (w : World) : Calls Tryz.prog 101 #[.int .i64 n] w fun e w' => e = .returned (.bool (restOk n)) ∧ w = w' := by
  rcases Int.lt_or_le n (-255) with h | h
  · go_enter Tryz.func101, Tryz.ntmps101
    go_wp2
    go_ret
    exact ⟨ret_bool (restOk_not.2 (Or.inl h)).symm, rfl⟩
  · rcases Int.lt_or_le 255 n with k | k
    · go_enter Tryz.func101, Tryz.ntmps101
      go_wp2
      go_ret
      exact ⟨ret_bool (by first | exact (restOk_not.2 (Or.inr k)).symm | (rw [Bool.eq_iff_iff, restOk_iff, decide_eq_true_iff]; omega)), rfl⟩
    · go_enter Tryz.func101, Tryz.ntmps101
      go_wp2
      go_ret
      exact ⟨ret_bool (restOk_iff.2 ⟨h, k⟩).symm, rfl⟩
end Go.Proofs.YtjhflcgphejddaaGreatDoor
