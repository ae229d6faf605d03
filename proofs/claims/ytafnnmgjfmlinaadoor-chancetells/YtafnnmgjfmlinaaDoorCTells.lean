/-
  Proved: 'dropletmill/droplaw1.ChanceTells' returns true whatever three numbers it is handed, and all read behind the call as they did; its row lists errors.errorType with what the program's text lays in it, and the card ties that to the text. No other conditions.
  The card speaks of the pruned copy of the project that holds the packages which this seat's roots load.
-/
import Derived.Test.YtafnnmgjfmlinaaDoorErrIs
import Derived.Test.YtafnnmgjfmlinaaDoorChance
import Derived.Test.YtafnnmgjfmlinaaDoorSInts
import Derived.Test.YtafnnmgjfmlinaaDoorTop
import Derived.Test.YtafnnmgjfmlinaaDoorCards
import Derived.Test.YtafnnmgjfmlinaaDoorTie
import Derived.Deep.DeepHandedRow
import Derived.Deep.DeepCutAuto
namespace Go.Proofs.YtafnnmgjfmlinaaDoor
open Go.ChangeShapes Go.WideShapes Go.ChangeAt Go.RowKit
open Go.ChangeMaps (open_string shut_string)
set_option linter.unusedVariables false
set_option maxRecDepth 100000

instance (n : Int) : Decidable (Num n) := inferInstanceAs (Decidable (_ ∧ _))
/-- What Next says: the fault's number, the number. -/
def eN (n : Int) : Int := if Num n then 0 else 1
def wN (n : Int) : Int := if Num n then nxt n else 0
/-- What Row says: the fault's number, how many. -/
def RowOk (n m : Int) : Prop := Num n ∧ 0 ≤ m ∧ m ≤ 60
instance (n m : Int) : Decidable (RowOk n m) := inferInstanceAs (Decidable (_ ∧ _))
def fN (n m : Int) : Int := if RowOk n m then 0 else 1
def lN (n m : Int) : Nat := if RowOk n m then m.toNat else 0
/-- What Below says: the fault's number, the number below the bound, the number. -/
def BelowOk (n b : Int) : Prop := Num n ∧ 1 ≤ b ∧ b ≤ 1000
instance (n m : Int) : Decidable (BelowOk n m) := inferInstanceAs (Decidable (_ ∧ _))
def gN (n b : Int) : Int := if BelowOk n b then 0 else 1
def hN (n b : Int) : Int := if BelowOk n b then nxt n % b else 0
def vN (n b : Int) : Int := if BelowOk n b then nxt n else 0

theorem not_row {n m : Int} (h : ¬ RowOk n m) : ¬ Num n ∨ m < 0 ∨ 60 < m := by
  unfold RowOk at h
  by_cases hn : Num n
  · exact Or.inr (by simp only [hn, true_and] at h; omega)
  · exact Or.inl hn
theorem not_below {n b : Int} (h : ¬ BelowOk n b) : ¬ Num n ∨ b < 1 ∨ 1000 < b := by
  unfold BelowOk at h
  by_cases hn : Num n
  · exact Or.inr (by simp only [hn, true_and] at h; omega)
  · exact Or.inl hn
theorem rnext (n : Int) (w : World) (h : Num n) : Calls Tryd.prog 4 #[.int .i64 n] w fun e w' => e = .returned (.int .i64 (nxt n)) ∧ w = w' := by
  obtain ⟨h1, h2⟩ := h
  go_enter Tryd.func4, Tryd.ntmps4
  go_wp2
  go_ret
  exact ⟨ret_int (by unfold nxt; first | rfl | omega), rfl⟩
theorem next_any (n : Int) (w : World) : Calls Tryd.prog 5 #[.int .i64 n] w fun e w' => ∃ err, ErrIs (eN n) err ∧ e = .returned (.tuple #[.int .i64 (wN n), err]) ∧ w = w' := by
  by_cases h : Num n
  · exact (next_ok n w h).mono fun e w' ⟨he, hw⟩ => ⟨_, Or.inl ⟨if_pos h, rfl⟩, by rw [he, wN, if_pos h], hw⟩
  · exact (next_range n w (by unfold Num at h; omega)).mono fun e w' ⟨he, hw⟩ => ⟨_, Or.inr rfl, by rw [he, wN, eN, if_neg h, if_neg h], hw⟩
theorem row_any (n m : Int) (w : World) : Calls Tryd.prog 7 #[.int .i64 n, .int .i64 m] w fun e w' => ∃ v err, ErrIs (fN n m) err ∧ e = .returned (.tuple #[v, err]) ∧ IntsIn w' v (lN n m) (fun i => rowV n (i + 1)) ∧ Below w.heap.size w w' := by
  by_cases h : RowOk n m
  · obtain ⟨h1, h2, h3⟩ := id h
    obtain ⟨k, rfl⟩ := Int.eq_ofNat_of_zero_le h2
    refine (row_ok n k w h1 (by omega)).mono fun e w' ⟨he, hr, hb⟩ => ⟨_, _, Or.inl ⟨if_pos h, rfl⟩, he, ?_, hb⟩
    have hl : lN n (k : Int) = k := by rw [lN, if_pos h]; rfl
    rw [hl]
    rcases Nat.eq_zero_or_pos k with rfl | h0
    · exact Or.inl ⟨rfl, _, _, rfl⟩
    · exact Or.inr ⟨h0, _, 0, _, rfl, fun i hi => by rw [Nat.zero_add]; exact (hr i hi).1⟩
  · refine (row_range n m w (not_row h)).mono fun e w' ⟨he, hw⟩ => ⟨.slice none 0 0, _, Or.inr rfl, by rw [he, fN, if_neg h], ?_, hw ▸ Below.refl _ _⟩
    rw [lN, if_neg h]
    exact Or.inl ⟨rfl, _, _, rfl⟩
theorem below_any (n b : Int) (w : World) : Calls Tryd.prog 9 #[.int .i64 n, .int .i64 b] w fun e w' => ∃ err, ErrIs (gN n b) err ∧ e = .returned (.tuple #[.int .i64 (hN n b), .int .i64 (vN n b), err]) ∧ w = w' := by
  by_cases h : BelowOk n b
  · obtain ⟨h1, h2, h3⟩ := id h
    exact (below_ok n b w h1 h2 h3).mono fun e w' ⟨he, hw⟩ => ⟨_, Or.inl ⟨if_pos h, rfl⟩, by rw [he, hN, vN, if_pos h, if_pos h], hw⟩
  · exact (below_range n b w (not_below h)).mono fun e w' ⟨he, hw⟩ => ⟨_, Or.inr rfl, by rw [he, hN, vN, gN, if_neg h, if_neg h, if_neg h], hw⟩
/-- Ints that the call owns, as a slice of numbers. -/
theorem own_in {w : World} {B : Nat} {v : Value} {n : Nat} {f : Nat → Int} (h : w.ownsRow B 3 1 v n ((List.range n).map fun k : Nat => .int .i64 (f k))) : IntsIn w v n f := by
  rcases Nat.eq_zero_or_pos n with rfl | h0
  · rcases h.2 with ⟨hv, _⟩ | ⟨g, cap, cur, hv, _⟩
    · exact Or.inl ⟨rfl, _, _, hv⟩
    · exact Or.inl ⟨rfl, _, _, hv⟩
  · obtain ⟨g, cap, hv, _, _, hc⟩ := own_ints h h0
    exact Or.inr ⟨h0, g, 0, cap, hv, hc⟩

set_option maxHeartbeats 4000000 in
theorem ctells_walk (n m b : Int) (w : World) (hg : HasErr w) :
    Calls Tryd.prog 3 #[.int .i64 n, .int .i64 m, .int .i64 b] w fun e w' => e = .returned (.bool true) ∧ Below w.heap.size w w' := by
  have HG := hide hg
  have HGL := hide hg.lt
  have KN := hide (next_any n)
  have KR := hide (row_any n m)
  have KB := hide (below_any n b)
  obtain ⟨i0, hif, hz0, hzs, hzb⟩ := info_parts Tryd.infoInt
  have Hi := hide hif
  have Hz0 := hide hz0
  have Hzs := hide hzs
  have Hzb := hide hzb
  clear hg hif hz0 hzs hzb
  go_enter Tryd.func3, Tryd.ntmps3
  go_upto_region 3 with fail
  go_cut [27] (fun t wx => ∃ r : Bool, t = .bool r ∧ (r = true ↔ ¬ Num n) ∧ w = wx)
  case first =>
    by_cases h1 : n < 1
    · go_wp2
      go_meet
      exact ⟨true, rfl, ⟨fun _ => by unfold Num; omega, fun _ => rfl⟩, rfl⟩
    · by_cases h2 : 2147483646 < n
      · go_wp2
        go_meet
        exact ⟨true, by first | rfl | simp <;> omega, ⟨fun _ => by unfold Num; omega, fun _ => rfl⟩, rfl⟩
      · go_wp2
        go_meet
        exact ⟨false, by first | rfl | simp <;> omega, ⟨fun h => Bool.noConfusion h, fun h => by unfold Num at h; omega⟩, rfl⟩
  case rest =>
  obtain ⟨r, rfl, hr, rfl⟩ := hcut
  have HR := hide hr
  clear hr
  go_upto_if 27 with fail
  go_cut [7, 8] (fun e want wx => e = .int .i64 (eN n) ∧ want = .int .i64 (wN n) ∧ w = wx)
  case first =>
    by_cases h : Num n
    · obtain rfl : r = false := by
        cases r with
        | false => rfl
        | true => exact absurd h (HR.out.1 rfl)
      have K := hide (rnext n w h)
      have E := hide (show eN n = 0 from if_pos h)
      have W := hide (show wN n = nxt n from if_pos h)
      clear h
      go_wp2_with fail
      refine (K.out).mono ?_
      rintro e w1 ⟨rfl, rfl⟩
      go_wp2
      go_meet
      exact ⟨by rw [E.out], by rw [W.out], rfl⟩
    · obtain rfl : r = true := HR.out.2 h
      have E := hide (show eN n = 1 from if_neg h)
      have W := hide (show wN n = 0 from if_neg h)
      clear h
      go_wp2
      go_meet
      exact ⟨by rw [E.out], by rw [W.out], rfl⟩
  case rest =>
  obtain ⟨rfl, rfl, rfl⟩ := hcut
  have HE := hide (show eN n = if Num n then 0 else 1 from rfl)
  have HW := hide (show wN n = if Num n then nxt n else 0 from rfl)
  generalize eN n = e0 at *
  generalize wN n = w0 at *
  go_wp2_with fail
  refine (KN.out _).mono ?_
  rintro e w1 ⟨err1, herr1, rfl, rfl⟩
  have E1 := hide (error_right e0 err1 w HG.out herr1)
  clear herr1 KN
  go_wp2_with fail
  refine (E1.out).mono ?_
  rintro e w1 ⟨rfl, b1⟩
  clear E1
  go_upto_region 9 with fail
  go_cut [49] (fun t wx => ∃ r : Bool, t = .bool r ∧ (r = true ↔ (m < 0 ∨ 60 < m)) ∧ w1 = wx)
  case first =>
    by_cases h1 : m < 0
    · go_wp2
      go_meet
      exact ⟨true, rfl, ⟨fun _ => Or.inl h1, fun _ => rfl⟩, rfl⟩
    · by_cases h2 : 60 < m
      · go_wp2
        go_meet
        exact ⟨true, by first | rfl | simp <;> omega, ⟨fun _ => Or.inr h2, fun _ => rfl⟩, rfl⟩
      · go_wp2
        go_meet
        exact ⟨false, by first | rfl | simp <;> omega, ⟨fun h => Bool.noConfusion h, fun h => by omega⟩, rfl⟩
  case rest =>
  obtain ⟨r2, rfl, hr2, rfl⟩ := hcut
  have HR2 := hide hr2
  clear hr2
  go_upto_if 49 with fail
  go_cut [12] (fun f wx => f = .int .i64 (fN n m) ∧ w1 = wx)
  case first =>
    by_cases h : m < 0 ∨ 60 < m
    · obtain rfl : r2 = true := HR2.out.2 h
      have E := hide (show fN n m = 1 from if_neg (by unfold RowOk; omega))
      clear h
      go_wp2
      go_meet
      exact ⟨by rw [E.out], rfl⟩
    · obtain rfl : r2 = false := by
        cases r2 with
        | false => rfl
        | true => exact absurd (HR2.out.1 rfl) h
      have E : Hid (fN n m = e0) := by
        unfold Hid
        rw [HE.out, fN]
        by_cases hn : Num n
        · rw [if_pos hn, if_pos ⟨hn, by omega, by omega⟩]
        · rw [if_neg hn, if_neg (fun h => hn h.1)]
      clear h
      go_wp2
      go_meet
      exact ⟨by rw [E.out], rfl⟩
  case rest =>
  obtain ⟨rfl, rfl⟩ := hcut
  have HF : Hid ((RowOk n m ∧ fN n m = 0 ∧ lN n m = m.toNat) ∨ (¬ RowOk n m ∧ fN n m = 1 ∧ lN n m = 0)) := by
    by_cases h : RowOk n m
    · exact Or.inl ⟨h, if_pos h, if_pos h⟩
    · exact Or.inr ⟨h, if_neg h, if_neg h⟩
  have hl60 : lN n m ≤ 60 := by
    rcases HF.out with ⟨⟨_, h1, h2⟩, _, h⟩ | ⟨_, _, h⟩ <;> omega
  generalize fN n m = f0 at *
  generalize lN n m = l0 at *
  go_wp2
  go_loopw [13, 14, 15] (fun v x i wr => ∃ (j : Nat) (aA : Option Addr) (cA : Nat), j ≤ l0 ∧ i = .int .i64 j ∧ x = .int .i64 (rowV n j) ∧ v = .slice aA j cA ∧ wr.ownsRow w1.heap.size 3 1 v j ((List.range j).map fun k : Nat => .int .i64 (rowV n (k + 1))) ∧ Below w1.heap.size w1 wr) (fun _ _ i _ => l0 - (intOf i).toNat)
  case atStart => exact ⟨0, none, 0, Nat.zero_le _, rfl, rfl, rfl, World.ownsRow_nil _ _ _ _, Below.refl _ _⟩
  case round =>
    obtain ⟨j, aA, cA, hj, rfl, rfl, rfl, hA, hb⟩ := hrel
    have hbs := hb.size
    have HA := hide hA
    clear hA
    go_upto_region 14 with fail
    go_cut [57] (fun t wx => ∃ r : Bool, t = .bool r ∧ (r = true ↔ j < l0) ∧ wr = wx)
    case first =>
      rcases HF.out with ⟨⟨_, h1, h2⟩, h3, h⟩ | ⟨_, h3, h⟩
      · by_cases hlt : j < l0
        · have hjm : (j : Int) < m := by omega
          obtain ⟨q, hq⟩ : ∃ q : Bool, (f0 == 0) = q := ⟨_, rfl⟩
          have HQ : Hid (q = true) := by unfold Hid; rw [← hq, h3]; rfl
          clear h3
          go_wp2
          go_meet
          exact ⟨true, by rw [HQ.out], ⟨fun _ => hlt, fun _ => rfl⟩, rfl⟩
        · have hjm : ¬ (j : Int) < m := by omega
          clear h3
          go_wp2
          go_meet
          exact ⟨false, by first | rfl | simp <;> omega, ⟨fun h => Bool.noConfusion h, fun h => absurd h hlt⟩, rfl⟩
      · have hf0 : (f0 == 0) = false := by rw [h3]; rfl
        clear h3
        have hlt : ¬ j < l0 := by omega
        by_cases hjm : (j : Int) < m
        · go_wp2
          go_meet
          exact ⟨false, by first | rfl | simp <;> omega, ⟨fun h => Bool.noConfusion h, fun h => absurd h hlt⟩, rfl⟩
        · go_wp2
          go_meet
          exact ⟨false, by first | rfl | simp <;> omega, ⟨fun h => Bool.noConfusion h, fun h => absurd h hlt⟩, rfl⟩
    case rest =>
    obtain ⟨r3, rfl, hr3, rfl⟩ := hcut
    by_cases hlt : j < l0
    · obtain rfl : r3 = true := hr3.2 hlt
      have hN : Num n := by
        rcases HF.out with ⟨⟨h, _⟩, _⟩ | ⟨_, _, h⟩
        · exact h
        · omega
      have K := hide (rnext (rowV n j) wr (hN.rowV j))
      have e1 : nxt (rowV n j) = rowV n (j + 1) := rfl
      rw [e1] at K
      clear hr3 hN e1
      go_wp2_with fail
      refine (K.out).mono ?_
      rintro e w2 ⟨rfl, rfl⟩
      go_wp2_with (at_builtin; refine wpList_append_lies _ rfl _ _ 28 rfl w1.heap.size 3 i0 (.int .i64 0) 1 8 Tryd.underlying28 Hi.out Hz0.out Hzs.out Hzb.out rfl (by decide) _ _ _ rfl (HA.out.alloc _) ⟨wr.heap.size, 0, none⟩ 1 1 [.int .i64 (rowV n (j + 1))] rfl rfl (cell_one_new _ _ _) (fun x hx => by simp at hx; subst hx; rfl) (by decide) (by unfold maxLen; omega) (by omega) (by simp; omega) _ rfl ?_; intro g3 cap3 w3 hown3 hgrow3 hat3 hlt3)
      go_roundw
      case rel =>
        have R : j + 1 ≤ l0 ∧ Value.int .i64 ((j : Int) + 1) = .int .i64 ((j + 1 : Nat) : Int) ∧ Value.int .i64 (rowV n (j + 1)) = .int .i64 (rowV n (j + 1)) ∧ Value.slice (some ⟨g3, 0, none⟩) (j + 1) cap3 = .slice (some ⟨g3, 0, none⟩) (j + 1) cap3
            ∧ w3.ownsRow w1.heap.size 3 1 (.slice (some ⟨g3, 0, none⟩) (j + 1) cap3) (j + 1) ((List.range (j + 1)).map fun k : Nat => .int .i64 (rowV n (k + 1))) ∧ Below w1.heap.size w1 w3 :=
          ⟨by omega, by simp, rfl, rfl, by rw [List.range_succ, List.map_append]; exact hown3, (hb.alloc hbs _).grown hgrow3 (by simp; omega) (fun q hq => (HA.out.lt q hq).1)⟩
        first
          | exact ⟨j + 1, some ⟨g3, 0, none⟩, cap3, R⟩
          | ((repeat apply Exists.intro); exact ⟨⟨j + 1, some ⟨g3, 0, none⟩, cap3, R⟩, rfl⟩)
      case measure => simp [intOf]; omega
    · obtain rfl : r3 = false := by
        cases r3 with
        | false => rfl
        | true => exact absurd (hr3.1 rfl) hlt
      obtain rfl : j = l0 := by omega
      have HI := hide (own_in (f := fun k => rowV n (k + 1)) HA.out)
      have b2 := below_two b1 hb
      clear hr3 hlt HA b1 hb
      go_wp2_with fail
      refine (KR.out _).mono ?_
      rintro e w2 ⟨v2, err2, herr2, rfl, hI2, hb2⟩
      have b3 := below_two b2 hb2
      have E2 := hide (error_right f0 err2 w2 (HG.out.below HGL.out b3) herr2)
      have HI' := hide (HI.out.below hb2)
      have HI2 := hide hI2
      clear herr2 KR hI2 hb2 b2
      go_wp2_with fail
      refine (E2.out).mono ?_
      rintro e w3 ⟨rfl, hb3⟩
      have S := hide (ints_same (by omega) (HI2.out.below hb3) (HI'.out.below hb3))
      have b4 := below_two b3 hb3
      clear hb3 E2 b3
      go_wp2_with fail
      refine (S.out).mono ?_
      rintro e w4 ⟨rfl, hb4⟩
      have b5 := below_two b4 hb4
      clear hb4 b4 S
      go_upto_region 21 with fail
      go_cut [85] (fun t wx => ∃ r : Bool, t = .bool r ∧ (r = true ↔ (b < 1 ∨ 1000 < b)) ∧ w4 = wx)
      case first =>
        by_cases h1 : b < 1
        · go_wp2
          go_meet
          exact ⟨true, rfl, ⟨fun _ => Or.inl h1, fun _ => rfl⟩, rfl⟩
        · by_cases h2 : 1000 < b
          · go_wp2
            go_meet
            exact ⟨true, by first | rfl | simp <;> omega, ⟨fun _ => Or.inr h2, fun _ => rfl⟩, rfl⟩
          · go_wp2
            go_meet
            exact ⟨false, by first | rfl | simp <;> omega, ⟨fun h => Bool.noConfusion h, fun h => by omega⟩, rfl⟩
      case rest =>
      obtain ⟨r4, rfl, hr4, rfl⟩ := hcut
      have HR4 := hide hr4
      clear hr4
      go_upto_if 85 with fail
      go_cut [7] (fun e wx => e = .int .i64 (gN n b) ∧ w4 = wx)
      case first =>
        by_cases h : b < 1 ∨ 1000 < b
        · obtain rfl : r4 = true := HR4.out.2 h
          have E := hide (show gN n b = 1 from if_neg (by unfold BelowOk; omega))
          clear h
          go_wp2
          go_meet
          exact ⟨by rw [E.out], rfl⟩
        · obtain rfl : r4 = false := by
            cases r4 with
            | false => rfl
            | true => exact absurd (HR4.out.1 rfl) h
          have E : Hid (gN n b = e0) := by
            unfold Hid
            rw [HE.out, gN]
            by_cases hn : Num n
            · rw [if_pos hn, if_pos ⟨hn, by omega, by omega⟩]
            · rw [if_neg hn, if_neg (fun h => hn h.1)]
          clear h
          go_wp2
          go_meet
          exact ⟨by rw [E.out], rfl⟩
      case rest =>
      obtain ⟨rfl, rfl⟩ := hcut
      by_cases hB : BelowOk n b
      · obtain ⟨hn, hb1, hb2⟩ := hB
        have KB' : Hid (∀ w : World, Calls Tryd.prog 9 #[.int .i64 n, .int .i64 b] w fun e w' => e = .returned (.tuple #[.int .i64 (w0 % b), .int .i64 w0, .nilIface]) ∧ w = w') := fun w => by
          rw [HW.out, if_pos hn]; exact below_ok n b w hn hb1 hb2
        obtain ⟨hx1, hx2⟩ : 1 ≤ w0 ∧ w0 ≤ 2147483646 := by rw [HW.out, if_pos hn]; exact hn.nxt
        have eg : gN n b = 0 := if_pos ⟨hn, hb1, hb2⟩
        rw [eg]
        clear KB eg hn
        go_wp2_with fail
        refine (KB'.out _).mono ?_
        rintro e w5 ⟨rfl, rfl⟩
        have E3 := hide (error_nil 0 w4)
        go_wp2_with fail
        refine (E3.out).mono ?_
        rintro e w5 ⟨rfl, rfl⟩
        go_wp2
        go_ret
        exact ⟨rfl, b5⟩
      · have KB' : Hid (∀ w : World, Calls Tryd.prog 9 #[.int .i64 n, .int .i64 b] w fun e w' => e = .returned (.tuple #[.int .i64 0, .int .i64 0, .iface 36 (.int .i64 1)]) ∧ w = w') := fun w =>
          below_range n b w (not_below hB)
        have eg : gN n b = 1 := if_neg hB
        rw [eg]
        clear KB eg hB
        go_wp2_with fail
        refine (KB'.out _).mono ?_
        rintro e w5 ⟨rfl, rfl⟩
        have E3 := hide (error_hit 1 1 w4 (HG.out.below HGL.out b5))
        go_wp2_with fail
        refine (E3.out).mono ?_
        rintro e w5 ⟨rfl, hb6⟩
        have b6 := below_two b5 hb6
        go_wp2
        go_ret
        exact ⟨rfl, b6⟩

set_option maxRecDepth 100000 in
theorem chanceTells_contract (H : Type) (enc : TypeId × Value → H) (W : World) (base : Nat) (args : Array Value) (ds gs : List (DataW H)) (before : List MemPlace)
    (hval : ∀ (j : Nat) t v, Tryd.f3.params[j]? = some t → args[j]? = some v → Value.okWide Tryd.prog W .any base t v)
    (hW : DataW.Whole enc Tryd.prog Tryd.f3.params.toList Rows.chanceTellsSpec.vars false W args.toList ds gs before) (hL : laidMetH Tryd.prog Rows.chanceTellsRow.laid W) :
    Calls Tryd.prog 3 args W fun e W' => ∃ v, e = .returned v ∧ Rows.chanceTellsSpec.post enc Tryd.prog Tryd.f3 false true false false W args v W' := by
  have hW' := hW
  have hlt0 := hW.lt
  obtain ⟨p, q, hA0, hV, rfl, hfz, hnd⟩ := hW
  have hA : DataW.TrodAll enc Tryd.prog W 0 (fun _ => true) true Tryd.f3.params.toList args.toList ds p := hA0
  rw [Tryd.params3] at hA hval
  have hAll := hA
  have hread : ∀ t ∈ [3, 3, 3], Tryd.prog.readableRec t = true ∧ t < Tryd.prog.types.size := by
    intro t ht
    simp only [List.mem_cons, List.not_mem_nil, or_false] at ht
    rcases ht with rfl | rfl | rfl <;> exact ⟨by kernel_rfl, of_decide_eq_true (by kernel_rfl)⟩
  obtain ⟨v0, vs0, d0, ds0, p0, q0, hargs, rfl, rfl, h0, r0⟩ := trodAll_cons hA
  obtain ⟨v1, vs1, d1, ds1, p1, q1, rfl, rfl, rfl, h1, r1⟩ := trodAll_cons r0
  obtain ⟨v2, vs2, d2, ds2, p2, q2, rfl, rfl, rfl, h2, r2⟩ := trodAll_cons r1
  obtain ⟨rfl, rfl, rfl⟩ := trodAll_nil r2
  obtain rfl : args = #[v0, v1, v2] := by cases args; simp_all
  obtain ⟨rfl, rfl⟩ := trodVars_none hV
  simp only [List.append_nil] at hW' hlt0
  have fin : ∀ W' : World, Below W.heap.size W W' → Rows.chanceTellsSpec.post enc Tryd.prog Tryd.f3 false true false false W #[v0, v1, v2] (.bool true) W' := by
    intro W' hg
    refine ⟨_, _, _, [], (p0 ++ (p1 ++ (p2 ++ []))), [], hW', ?_, ?_, ?_, hg.frame _, fun h => by cases h⟩
    · exact trodAll_mk1 (shut_bool Tryd.underlying4 true)
    · exact trodAll_below hg _ _ _ _ hread hAll (by simpa using hlt0)
    · rfl
  obtain ⟨a0, rfl, rfl, rfl, w0⟩ := open_int Tryd.underlying3 (hval 0 3 v0 rfl rfl) h0
  obtain ⟨a1, rfl, rfl, rfl, w1⟩ := open_int Tryd.underlying3 (hval 1 3 v1 rfl rfl) h1
  obtain ⟨a2, rfl, rfl, rfl, w2⟩ := open_int Tryd.underlying3 (hval 2 3 v2 rfl rfl) h2
  refine (ctells_walk a0 a1 a2 W (hasErr_of_laid hL)).mono fun e W' ⟨he, hg⟩ => ?_
  subst he
  exact ⟨_, rfl, fin W' hg⟩

theorem chanceTells_met (os : Os) : laidMetH Tryd.prog Rows.chanceTellsRow.laid (({ World.holding Tryd.prog os ⟨#[], #[], []⟩ with heap := (World.holding Tryd.prog os ⟨#[], #[], []⟩).heap.modify 0 fun | .cells _ t frozen => .cells #[.iface 54 (.agg #[.pointer (some ⟨1, 24, none⟩)])] t frozen | o => o } : World).forCall (fun _ _ => 0) ⟨#[], #[.int .i64 0, .int .i64 0, .int .i64 0], []⟩).memory :=
  laidMetH_of_parts (laidMet_nil _ _) (by kernel_rfl)
theorem chanceTells_reads (os : Os) {H : Type} (enc : TypeId × Value → H) : ∃ places, DataW.whole enc Tryd.prog (({ World.holding Tryd.prog os ⟨#[], #[], []⟩ with heap := (World.holding Tryd.prog os ⟨#[], #[], []⟩).heap.modify 0 fun | .cells _ t frozen => .cells #[.iface 54 (.agg #[.pointer (some ⟨1, 24, none⟩)])] t frozen | o => o } : World).forCall (fun _ _ => 0) ⟨#[], #[.int .i64 0, .int .i64 0, .int .i64 0], []⟩).memory Tryd.f3.params.toList Rows.chanceTellsSpec.vars false (#[.int .i64 0, .int .i64 0, .int .i64 0] : Array Value).toList 8 = some ([.lit (.int .i64 0), .lit (.int .i64 0), .lit (.int .i64 0)], [], places) :=
  ⟨[], by kernel_rfl⟩
set_option maxRecDepth 100000 in
theorem chanceTells_lifted (os : Os) (started : os.Started) (H : Type) (enc : TypeId × Value → H) (F : Stop.Interp) :
    ReturnsInHanded {} Tryd.checked os 3 .any ((OpenSpec.ofChange Rows.chanceTellsSpec).preRow enc Tryd.prog Tryd.f3 Rows.chanceTellsRow.domain false Rows.chanceTellsRow.laid) (((OpenSpec.ofChange Rows.chanceTellsSpec).at F).post enc Tryd.prog Tryd.f3 false true false false) := by
  obtain ⟨places, hx⟩ := chanceTells_reads os enc
  refine returnsInHanded_of_row (C := Tryd.checked) (s := OpenSpec.ofChange Rows.chanceTellsSpec) own started (by kernel_rfl) Tryd.func3
    (witness_row_at (enc := enc) (C := Tryd.checked) false ({ World.holding Tryd.prog os ⟨#[], #[], []⟩ with heap := (World.holding Tryd.prog os ⟨#[], #[], []⟩).heap.modify 0 fun | .cells _ t frozen => .cells #[.iface 54 (.agg #[.pointer (some ⟨1, 24, none⟩)])] t frozen | o => o } : World) #[.int .i64 0, .int .i64 0, .int .i64 0] rfl (by kernel_rfl) (by kernel_rfl) (by kernel_rfl)
      (OpenSpec.preRow_of_cond 8 hx (by kernel_rfl) (fun k hk => by cases hk) (by kernel_rfl) (chanceTells_met os))) ?_
  intro W base args ds gs before hval hW _ _ _ hL _ _
  exact chanceTells_contract H enc W base args ds gs before hval hW hL

theorem chanceTells_said : Rows.ChanceTellsSaid :=
  OpenClaim.holds_of_cond 3 Tryd.f3 rfl rfl rfl rfl rfl rfl rfl ⟨rfl, rfl, rfl, rfl, rfl⟩ rfl rfl rfl rfl rfl (by kernel_rfl) Tryd.func3 (by kernel_rfl)
    (of_decide_eq_true (by kernel_rfl)) (by unfold Func.isWrapper; first | (rw [if_pos (by decide +kernel)]; kernel_rfl) | (rw [if_neg (by decide +kernel)]; exact ⟨rfl, rfl⟩))
    (fun os started H enc _ F => by rw [OpenClaim.pre_eq_preRow]; exact chanceTells_lifted os started H enc F)

theorem chanceTells_plain (f : FuncId) (fn : Func) (hf : Tryd.pinned.checked.prog.funcNamed "dropletmill/droplaw1.ChanceTells" = some f) (hfn : Tryd.pinned.checked.prog.funcs[f]? = some fn) :
    true = Tryd.pinned.checked.prog.looks [] ∧ ∀ (j : Nat) t, fn.params[j]? = some t → Tryd.pinned.checked.prog.wantsStandIn t = false := by
  obtain rfl : f = 3 := Option.some.inj ((show Tryd.prog.funcNamed "dropletmill/droplaw1.ChanceTells" = some 3 by kernel_rfl).symm.trans hf) |>.symm
  obtain rfl : fn = Tryd.f3 := (Option.some.inj (Tryd.func3.symm.trans hfn)).symm
  refine ⟨by kernel_rfl, fun j t ht => ?_⟩
  rw [Tryd.params3] at ht
  have hm := Array.mem_of_getElem? ht
  simp only [List.mem_toArray, List.mem_cons, List.mem_nil_iff, or_false] at hm
  rcases hm with rfl | rfl | rfl
  · exact (show Tryd.prog.wantsStandIn 3 = false by kernel_rfl)
  · exact (show Tryd.prog.wantsStandIn 3 = false by kernel_rfl)
  · exact (show Tryd.prog.wantsStandIn 3 = false by kernel_rfl)

theorem chanceTells_card : Rows.ChanceTellsCardSaid :=
  Claim7.holds_tied_plain_at .later [] _ _ _ _ chanceTells_said (fun _ h => by cases h) (by kernel_rfl) (fun _ h => by cases h) chanceTells_row_tie rfl ⟨rfl, rfl⟩ (by kernel_rfl) rfl chanceTells_plain (by kernel_rfl)
#print axioms chanceTells_card
end Go.Proofs.YtafnnmgjfmlinaaDoor
