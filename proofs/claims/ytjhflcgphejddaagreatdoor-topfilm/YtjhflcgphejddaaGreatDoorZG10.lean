/-
  Lemmas for the law above, joined into one text (RcT, RcA, RcL, RcP, RcPut, BmQ, BmA). No statement is proved here.
-/
import Derived.Test.YtjhflcgphejddaaGreatDoorZG2
import Derived.Test.YtjhflcgphejddaaGreatDoorZG0
import Derived.Test.YtjhflcgphejddaaGreatDoorZG6
import Derived.Test.YtjhflcgphejddaaGreatDoorZG4
import Derived.Test.YtjhflcgphejddaaGreatDoorZG3
import Derived.Deep.AppendLies
import Derived.Laws.MakeOwn
import Derived.Maps.AppendAt
import Derived.Test.YtjhflcgphejddaaGreatDoorZG5
import Derived.Test.YtjhflcgphejddaaGreatDoorZG9
import Derived.Deep.DeepCutAuto
namespace Go.Proofs.YtjhflcgphejddaaGreatDoor
open Go.RowKit
set_option linter.unusedVariables false
set_option maxRecDepth 100000

def lowOk (n : Int) : Bool := decide (0 ≤ n) && decide (n ≤ 7)
def numOk (n : Int) : Bool := decide (-255 ≤ n) && decide (n ≤ 255)
theorem lowOk_iff {n : Int} : lowOk n = true ↔ 0 ≤ n ∧ n ≤ 7 := by simp [lowOk]
theorem lowOk_not {n : Int} : lowOk n = false ↔ n < 0 ∨ 7 < n := by rw [← Bool.not_eq_true, lowOk_iff]; omega
theorem numOk_iff {n : Int} : numOk n = true ↔ -255 ≤ n ∧ n ≤ 255 := by simp [numOk]
theorem numOk_not {n : Int} : numOk n = false ↔ n < -255 ∨ 255 < n := by rw [← Bool.not_eq_true, numOk_iff]; omega
/-- Whether each of the first is a number that may be. -/
def numsOk (f : Nat → Int) : Nat → Bool
  | 0 => true
  | n + 1 => numsOk f n && numOk (f n)
theorem numsOk_iff {f : Nat → Int} : ∀ {n}, numsOk f n = true ↔ ∀ i, i < n → -255 ≤ f i ∧ f i ≤ 255
  | 0 => ⟨fun _ i hi => absurd hi (Nat.not_lt_zero _), fun _ => rfl⟩
  | n + 1 => by
    show (numsOk f n && numOk (f n)) = true ↔ _
    rw [Bool.and_eq_true, numsOk_iff, numOk_iff]
    constructor
    · intro h i hi
      by_cases c : i = n
      · subst c; exact h.2
      · exact h.1 i (by omega)
    · intro h
      exact ⟨fun i hi => h i (by omega), h n (by omega)⟩
theorem numsOk_not {f : Nat → Int} {n i : Nat} (hi : i < n) (h : numOk (f i) = false) : numsOk f n = false := by
  rw [← Bool.not_eq_true, numsOk_iff]
  intro hall
  have := numOk_not.1 h
  have := hall i hi
  omega

theorem told_ok (n : Int) (w : World) (h : -255 ≤ n ∧ n ≤ 255) : Calls Tryz.prog 57 #[.int .i64 n] w fun e w' => e = .returned (.int .i64 (zz n : Nat)) ∧ w = w' := by
  obtain ⟨h1, h2⟩ := h
  by_cases c : n < 0
  · have HZ : Hid (((zz n : Nat) : Int) = -2 * n - 1) := by unfold Hid zz; rw [if_pos c]; omega
    go_enter Tryz.func57, Tryz.ntmps57
    go_wp2
    go_ret
    exact ⟨ret_int (by rw [HZ.out]), rfl⟩
  · have HZ : Hid (((zz n : Nat) : Int) = 2 * n) := by unfold Hid zz; rw [if_neg c]; omega
    go_enter Tryz.func57, Tryz.ntmps57
    go_wp2
    go_ret
    exact ⟨ret_int (by rw [HZ.out]), rfl⟩

theorem islow_ok (n : Int) (w : World) : Calls Tryz.prog 53 #[.int .i64 n] w fun e w' => e = .returned (.bool (lowOk n)) ∧ w = w' := by
  by_cases c : n < 0
  · have HZ : Hid (lowOk n = false) := lowOk_not.2 (Or.inl c)
    go_enter Tryz.func53, Tryz.ntmps53
    go_wp2
    go_ret
    exact ⟨ret_bool (by rw [HZ.out]), rfl⟩
  · by_cases c2 : 7 < n
    · have HZ : Hid (lowOk n = false) := lowOk_not.2 (Or.inr c2)
      go_enter Tryz.func53, Tryz.ntmps53
      go_wp2
      go_ret
      exact ⟨ret_bool (by first | (rw [HZ.out]; done) | (rw [HZ.out]; simp; done) | (rw [HZ.out]; simp; omega)), rfl⟩
    · have HZ : Hid (lowOk n = true) := lowOk_iff.2 (by omega)
      go_enter Tryz.func53, Tryz.ntmps53
      go_wp2
      go_ret
      exact ⟨ret_bool (by first | (rw [HZ.out]; done) | (rw [HZ.out]; simp; done) | (rw [HZ.out]; simp; omega)), rfl⟩

theorem nnum_ok (n : Int) (w : World) : Calls Tryz.prog 102 #[.int .i64 n] w fun e w' => e = .returned (.bool (!numOk n)) ∧ w = w' := by
  by_cases c : n < -255
  · have HZ : Hid (numOk n = false) := numOk_not.2 (Or.inl c)
    go_enter Tryz.func102, Tryz.ntmps102
    go_wp2
    go_ret
    exact ⟨ret_bool (by rw [HZ.out]; rfl), rfl⟩
  · by_cases c2 : 255 < n
    · have HZ : Hid (numOk n = false) := numOk_not.2 (Or.inr c2)
      go_enter Tryz.func102, Tryz.ntmps102
      go_wp2
      go_ret
      exact ⟨ret_bool (by first | (rw [HZ.out]; done) | (rw [HZ.out]; simp; done) | (rw [HZ.out]; simp; omega)), rfl⟩
    · have HZ : Hid (numOk n = true) := numOk_iff.2 (by omega)
      go_enter Tryz.func102, Tryz.ntmps102
      go_wp2
      go_ret
      exact ⟨ret_bool (by first | (rw [HZ.out]; done) | (rw [HZ.out]; simp; done) | (rw [HZ.out]; simp; omega)), rfl⟩
end Go.Proofs.YtjhflcgphejddaaGreatDoor

namespace Go.Proofs.YtjhflcgphejddaaGreatDoor
open Go.RowKit
set_option linter.unusedVariables false
set_option maxRecDepth 100000

set_option maxHeartbeats 1000000 in
theorem nidx_ok {w : World} {v : Value} {n : Nat} {f : Nat → Int} (h : IntsIn w v n f) (hn : n ≤ 17592186044416) :
    Calls Tryz.prog 131 #[v, .func (.func 102) #[] #[]] w fun e w' => ∃ i : Int, e = .returned (.int .i64 i) ∧ IsAt (fun j => !numOk (f j)) n i ∧ w = w' := by
  rcases h with ⟨rfl, a, cap, rfl⟩ | ⟨h0, b, o, cap, rfl, hc⟩
  · go_enter Tryz.func131, Tryz.ntmps131
    go_wp2
    go_loop [8] (fun i => i = .int .i64 0) (fun _ => 0)
    case atStart => rfl
    case round =>
      obtain rfl := hrel
      go_wp2
      go_ret
      exact ⟨_, rfl, Or.inl ⟨rfl, fun j hj => absurd hj (Nat.not_lt_zero _)⟩, rfl⟩
  · have HC := hide hc
    clear hc
    go_enter Tryz.func131, Tryz.ntmps131
    go_wp2
    go_loop [5, 8] (fun _ i => ∃ j : Nat, j ≤ n ∧ i = .int .i64 j ∧ ∀ q, q < j → numOk (f q) = true) (fun _ i => n - (intOf i).toNat)
    case atStart => exact ⟨0, Nat.zero_le _, rfl, fun q hq => absurd hq (Nat.not_lt_zero _)⟩
    case round =>
      obtain ⟨j, hj, rfl, hno⟩ := hrel
      have HN := hide hno
      clear hno
      by_cases hlt : j < n
      · have hc := HC.out j hlt
        have K := hide (nnum_ok (f j) w)
        generalize hx : f j = x at *
        have HX := hide hx
        clear hx
        cases hq : numOk x with
        | false =>
          have HQ := hide hq
          rw [hq] at K
          clear hq
          go_wp2_with (go_at_call 102; refine (K.out).mono ?_; rintro e w1 ⟨rfl, rfl⟩)
          go_ret
          exact ⟨_, rfl, Or.inr ⟨j, rfl, hlt, by show (!numOk (f j)) = true; rw [HX.out, HQ.out]; rfl⟩, rfl⟩
        | true =>
          have HQ := hide hq
          rw [hq] at K
          clear hq
          go_wp2_with (go_at_call 102; refine (K.out).mono ?_; rintro e w1 ⟨rfl, rfl⟩)
          go_round
          case rel =>
            refine ⟨j + 1, by omega, by go_num, fun q hq => ?_⟩
            by_cases c : q = j
            · rw [c, HX.out]; exact HQ.out
            · exact HN.out q (by omega)
          case measure => simp [intOf]; omega
      · obtain rfl : j = n := by omega
        go_wp2
        go_ret
        exact ⟨_, rfl, Or.inl ⟨rfl, fun q hq => by show (!numOk (f q)) = false; rw [HN.out q hq]; rfl⟩, rfl⟩

theorem ncont_ok {w : World} {v : Value} {n : Nat} {f : Nat → Int} (h : IntsIn w v n f) (hn : n ≤ 17592186044416) :
    Calls Tryz.prog 85 #[v, .func (.func 102) #[] #[]] w fun e w' => e = .returned (.bool (!numsOk f n)) ∧ w = w' := by
  have K := hide (nidx_ok h hn)
  clear h
  go_enter Tryz.func85, Tryz.ntmps85
  go_wp2_with fail
  refine (K.out).mono ?_
  rintro e w1 ⟨i, rfl, hi, rfl⟩
  rcases hi with ⟨rfl, ha⟩ | ⟨j, rfl, hj, hq⟩
  · have e : numsOk f n = true := numsOk_iff.2 fun i hi => numOk_iff.1 (by have := ha i hi; simpa using this)
    have HE := hide e
    clear e ha
    go_wp2
    go_ret
    exact ⟨ret_bool (by rw [HE.out]; rfl), rfl⟩
  · have e : numsOk f n = false := by
      rw [← Bool.not_eq_true, numsOk_iff]
      intro hall
      have h9 := numOk_iff.2 (hall j hj)
      simp [h9] at hq
    have HE := hide e
    clear e hq
    go_wp2
    go_ret
    exact ⟨ret_bool (by rw [HE.out]; rfl), rfl⟩

theorem arenum_ok {w : World} {v : Value} {n : Nat} {f : Nat → Int} (h : IntsIn w v n f) (hn : n ≤ 17592186044416) :
    Calls Tryz.prog 54 #[v] w fun e w' => e = .returned (.bool (numsOk f n)) ∧ w = w' := by
  have K := hide (ncont_ok h hn)
  clear h
  generalize numsOk f n = r at *
  go_enter Tryz.func54, Tryz.ntmps54
  go_wp2_with fail
  refine (K.out).mono ?_
  rintro e w1 ⟨rfl, rfl⟩
  cases r <;>
  · go_wp2
    go_ret
    exact ⟨rfl, rfl⟩
end Go.Proofs.YtjhflcgphejddaaGreatDoor

namespace Go.Proofs.YtjhflcgphejddaaGreatDoor
open Go.RowKit
set_option linter.unusedVariables false
set_option maxRecDepth 100000

set_option maxHeartbeats 1000000 in
theorem length_ok {w : World} {v : Value} {n low : Nat} {f : Nat → Int} (h : IntsIn w v n f) (hn : n ≤ 17592186044416) (hl : low ≤ 7) (hf : ∀ i, i < n → -255 ≤ f i ∧ f i ≤ 255) :
    Calls Tryz.prog 55 #[v, .int .i64 low] w fun e w' => e = .returned (.int .i64 (lenN low f n : Nat)) ∧ w = w' := by
  rcases h with ⟨rfl, a, cap, rfl⟩ | ⟨h0, b, o, cap, rfl, hc⟩
  · clear hf
    go_enter Tryz.func55, Tryz.ntmps55
    go_wp2
    go_loop [5, 10] (fun u i => u = .int .i64 0 ∧ i = .int .i64 0) (fun _ _ => 0)
    case atStart => exact ⟨rfl, rfl⟩
    case round =>
      obtain ⟨rfl, rfl⟩ := hrel
      go_wp2
      go_ret
      exact ⟨rfl, rfl⟩
  · have HC := hide hc
    have HF := hide hf
    clear hc hf
    go_enter Tryz.func55, Tryz.ntmps55
    go_wp2
    go_loop [5, 10] (fun u i => ∃ j : Nat, j ≤ n ∧ i = .int .i64 j ∧ u = .int .i64 (lenN low f j : Nat)) (fun _ i => n - (intOf i).toNat)
    case atStart => exact ⟨0, Nat.zero_le _, rfl, rfl⟩
    case round =>
      obtain ⟨j, hj, rfl, rfl⟩ := hrel
      by_cases hlt : j < n
      · have hcj := HC.out j hlt
        have K := hide (told_ok (f j) w (HF.out j hlt))
        have hz := zz_le (HF.out j hlt)
        have hm := lenN_le (f := f) hl (n := j) (fun i hi => HF.out i (by omega))
        have HS := hide (lenN_succ low f j)
        have e1 := shr_nat (zz (f j)) low
        have e2 := shr_nat' (zz (f j)) low
        have hq := Nat.div_le_self (zz (f j)) (2 ^ low)
        generalize lenN low f j = m at *
        generalize f j = x at *
        generalize zz x = y at *
        generalize y / 2 ^ low = q at *
        go_wp2_with fail
        refine (K.out).mono ?_
        rintro e w1 ⟨rfl, rfl⟩
        go_wp2
        go_round
        case rel =>
          refine ⟨j + 1, by omega, by go_num, ?_⟩
          rw [HS.out]
          first | (simp; done) | (simp; omega) | (congr 1; omega)
        case measure => simp [intOf]; omega
      · obtain rfl : j = n := by omega
        go_wp2
        go_ret
        exact ⟨rfl, rfl⟩
end Go.Proofs.YtjhflcgphejddaaGreatDoor

namespace Go.Proofs.YtjhflcgphejddaaGreatDoor
open Go.RowKit Go.Maps
set_option linter.unusedVariables false
set_option maxRecDepth 100000

set_option maxHeartbeats 2000000 in
theorem put_ok {w : World} {B x low m : Nat} {ad : Option Addr} {cp : Nat} {L : List Int} (hB : B ≤ w.heap.size) (h : w.ownsRow B 3 1 (.slice ad m cp) m (encI L)) (hx : x ≤ 510) (hl : low ≤ 7) (hL : m ≤ 1000000) :
    Calls Tryz.prog 56 #[.slice ad m cp, .int .i64 x, .int .i64 low] w fun e w' => ∃ ad' cp', e = .returned (.slice ad' (m + (x / 2 ^ low + 1 + low)) cp') ∧ w'.ownsRow B 3 1 (.slice ad' (m + (x / 2 ^ low + 1 + low)) cp') (m + (x / 2 ^ low + 1 + low)) (encI (L ++ bitsN low x)) ∧ Below B w w' := by
  obtain ⟨i0, hi0, hz0, hz1, hz2⟩ := info_parts Tryz.infoInt
  have Hi := hide hi0
  have Hz0 := hide hz0
  have Hz1 := hide hz1
  have Hz2 := hide hz2
  have HX := hide h
  have e1 := shr_nat x low
  have e2 := shr_nat' x low
  have hq := Nat.div_le_self x (2 ^ low)
  have HQ : Hid (bitsN low x = (List.replicate (x / 2 ^ low) 1 ++ [0]) ++ lst (lb low x) low) := rfl
  generalize hqq : x / 2 ^ low = q at *
  clear h hi0 hz0 hz1 hz2 hqq
  go_enter Tryz.func56, Tryz.ntmps56
  go_wp2
  go_loopw [0, 11] (fun u i wr => ∃ (j : Nat) (ad : Option Addr) (cp : Nat), j ≤ q ∧ i = .int .i64 j ∧ u = .slice ad (m + j) cp ∧ wr.ownsRow B 3 1 u (m + j) (encI (L ++ List.replicate j 1)) ∧ Below B w wr) (fun _ i _ => q - (intOf i).toNat)
  case atStart => exact ⟨0, ad, cp, Nat.zero_le _, rfl, rfl, by simpa using HX.out, Below.refl _ _⟩
  case round =>
    obtain ⟨j, adr, cpr, hj, rfl, rfl, hY, hb⟩ := hrel
    have HY := hide hY
    have HB := hide hb
    have hsz : B ≤ wr.heap.size := Nat.le_trans hB hb.size
    clear hY hb
    by_cases hlt : j < q
    · go_wp2_with (at_builtin; refine wpList_append_lies _ rfl _ _ 23 rfl B 3 i0 (.int .i64 0) 1 8 Tryz.underlying23 Hi.out Hz0.out Hz1.out Hz2.out rfl (by decide) _ _ _ rfl (HY.out.alloc _) ⟨wr.heap.size, 0, none⟩ 1 1 [.int .i64 1] rfl rfl (cell_one_new _ _ _) (fun x hx => by simp at hx; subst hx; rfl) (by decide) (by unfold maxLen; omega) (by omega) (by simp; omega) _ rfl ?_; intro g3 cap3 w5 hown3 hgrow3 hat3 hlt3)
      go_roundw
      case rel =>
        have hB5 : Below B wr w5 := ((Below.refl B wr).alloc hsz _).grown hgrow3 (by simp; omega) (fun q hq => (HY.out.lt q hq).1)
        have R : j + 1 ≤ q ∧ Value.int .i64 ((j : Int) + 1) = .int .i64 ((j + 1 : Nat) : Int) ∧ Value.slice (some ⟨g3, 0, none⟩) (m + j + 1) cap3 = .slice (some ⟨g3, 0, none⟩) (m + (j + 1)) cap3
            ∧ w5.ownsRow B 3 1 (.slice (some ⟨g3, 0, none⟩) (m + j + 1) cap3) (m + (j + 1)) (encI (L ++ List.replicate (j + 1) 1)) ∧ Below B w w5 :=
          ⟨by omega, by simp, rfl, by rw [List.replicate_succ', ← List.append_assoc, encI_snoc]; exact hown3, HB.out.trans hB5⟩
        first
          | exact ⟨j + 1, some ⟨g3, 0, none⟩, cap3, R⟩
          | ((repeat apply Exists.intro); exact ⟨⟨j + 1, some ⟨g3, 0, none⟩, cap3, R⟩, rfl⟩)
      case measure => simp [intOf]; omega
    · obtain rfl : j = q := by omega
      go_wp2_with (at_builtin; refine wpList_append_lies _ rfl _ _ 23 rfl B 3 i0 (.int .i64 0) 1 8 Tryz.underlying23 Hi.out Hz0.out Hz1.out Hz2.out rfl (by decide) _ _ _ rfl (HY.out.alloc _) ⟨wr.heap.size, 0, none⟩ 1 1 [.int .i64 0] rfl rfl (cell_one_new _ _ _) (fun x hx => by simp at hx; subst hx; rfl) (by decide) (by unfold maxLen; omega) (by omega) (by simp; omega) _ rfl ?_; intro g3 cap3 w5 hown3 hgrow3 hat3 hlt3)
      have hB5 : Below B wr w5 := ((Below.refl B wr).alloc hsz _).grown hgrow3 (by simp; omega) (fun q hq => (HY.out.lt q hq).1)
      have HX5 : Hid (w5.ownsRow B 3 1 (.slice (some ⟨g3, 0, none⟩) (m + j + 1) cap3) (m + j + 1) (encI (L ++ (List.replicate j 1 ++ [0])))) := by
        unfold Hid; rw [← List.append_assoc, encI_snoc]; exact hown3
      have HB5 := hide (HB.out.trans hB5)
      have hsz5 : B ≤ w5.heap.size := Nat.le_trans hsz hB5.size
      clear hown3 hgrow3 hat3 hlt3 hB5 HX HY HB
      go_loopw [0, 21] (fun u i wr => ∃ (k : Nat) (ad : Option Addr) (cp : Nat), k ≤ low ∧ i = .int .i64 k ∧ u = .slice ad (m + j + 1 + k) cp ∧ wr.ownsRow B 3 1 u (m + j + 1 + k) (encI (L ++ ((List.replicate j 1 ++ [0]) ++ lst (lb low x) k))) ∧ Below B w wr) (fun _ i _ => low - (intOf i).toNat)
      case atStart => exact ⟨0, some ⟨g3, 0, none⟩, cap3, Nat.zero_le _, rfl, rfl, by rw [lst_zero, List.append_nil]; exact HX5.out, HB5.out⟩
      case round =>
        obtain ⟨k, adr, cpr, hk, rfl, rfl, hY, hb⟩ := hrel
        have HY := hide hY
        have HB := hide hb
        have hsz : B ≤ wr.heap.size := Nat.le_trans hB hb.size
        clear hY hb
        by_cases hlt : k < low
        · have f1 : ((x : Int) / 2 ^ ((low : Int) - 1 - (k : Int)).toNat) = ((x / 2 ^ (low - 1 - k) : Nat) : Int) := by
            rw [show ((low : Int) - 1 - (k : Int)).toNat = low - 1 - k by omega]; exact shr_nat' _ _
          have f4 := shr_nat' x (low - 1 - k)
          have f2 := i64_and_one (x / 2 ^ (low - 1 - k)) (by have := Nat.div_le_self x (2 ^ (low - 1 - k)); omega)
          have HS := hide (lst_succ (lb low x) k)
          have f3 : lb low x k = ((x / 2 ^ (low - 1 - k) % 2 : Nat) : Int) := rfl
          rw [← f3] at f2
          clear f3
          generalize lb low x k = z at *
          generalize x / 2 ^ (low - 1 - k) = y at *
          go_wp2_with (at_builtin; refine wpList_append_lies _ rfl _ _ 23 rfl B 3 i0 (.int .i64 0) 1 8 Tryz.underlying23 Hi.out Hz0.out Hz1.out Hz2.out rfl (by decide) _ _ _ rfl (HY.out.alloc _) ⟨wr.heap.size, 0, none⟩ 1 1 [.int .i64 z] rfl rfl (cell_one_new _ _ _) (fun x hx => by simp at hx; subst hx; rfl) (by decide) (by unfold maxLen; omega) (by omega) (by simp; omega) _ rfl ?_; intro g6 cap6 w6 hown6 hgrow6 hat6 hlt6)
          go_roundw
          case rel =>
            have hB6 : Below B wr w6 := ((Below.refl B wr).alloc hsz _).grown hgrow6 (by simp; omega) (fun q hq => (HY.out.lt q hq).1)
            have R : k + 1 ≤ low ∧ Value.int .i64 ((k : Int) + 1) = .int .i64 ((k + 1 : Nat) : Int) ∧ Value.slice (some ⟨g6, 0, none⟩) (m + j + 1 + k + 1) cap6 = .slice (some ⟨g6, 0, none⟩) (m + j + 1 + (k + 1)) cap6
                ∧ w6.ownsRow B 3 1 (.slice (some ⟨g6, 0, none⟩) (m + j + 1 + k + 1) cap6) (m + j + 1 + (k + 1)) (encI (L ++ ((List.replicate j 1 ++ [0]) ++ lst (lb low x) (k + 1)))) ∧ Below B w w6 :=
              ⟨by omega, by simp, rfl, by rw [HS.out, ← List.append_assoc, ← List.append_assoc, encI_snoc, List.append_assoc]; exact hown6, HB.out.trans hB6⟩
            first
              | exact ⟨k + 1, some ⟨g6, 0, none⟩, cap6, R⟩
              | ((repeat apply Exists.intro); exact ⟨⟨k + 1, some ⟨g6, 0, none⟩, cap6, R⟩, rfl⟩)
          case measure => simp [intOf]; omega
        · obtain rfl : k = low := by omega
          go_wp2
          go_ret
          have e : m + j + 1 + k = m + (j + 1 + k) := by omega
          rw [e] at HY
          exact ⟨adr, cpr, by show Ending.returned (.slice adr (m + j + 1 + k) cpr) = _; rw [e], by rw [HQ.out]; exact HY.out, HB.out⟩
end Go.Proofs.YtjhflcgphejddaaGreatDoor

namespace Go.Proofs.YtjhflcgphejddaaGreatDoor
open Go.RowKit Go.Maps
set_option linter.unusedVariables false
set_option maxRecDepth 100000

/-- What is wrong with what is put. -/
def putE (a : Int) (f : Nat → Int) (n : Nat) : Nat := if (lowOk a && numsOk f n) = false then 1 else if 2000 < lenN a.toNat f n then 4 else 0
theorem putE_zero {a : Int} {f : Nat → Int} {n : Nat} (h : putE a f n = 0) : ∃ low : Nat, a = low ∧ low ≤ 7 ∧ (∀ i, i < n → -255 ≤ f i ∧ f i ≤ 255) ∧ lenN low f n ≤ 2000 := by
  unfold putE at h
  split at h
  · cases h
  · rename_i h1
    rw [Bool.not_eq_false, Bool.and_eq_true, lowOk_iff, numsOk_iff] at h1
    split at h
    · cases h
    · rename_i h2
      refine ⟨a.toNat, by omega, by omega, h1.2, by omega⟩
theorem putE_of {low : Nat} {f : Nat → Int} {n : Nat} (h1 : low ≤ 7) (h2 : ∀ i, i < n → -255 ≤ f i ∧ f i ≤ 255) (h3 : lenN low f n ≤ 2000) : putE (low : Int) f n = 0 := by
  unfold putE
  rw [if_neg, if_neg (by simpa using h3)]
  rw [Bool.not_eq_false, Bool.and_eq_true, lowOk_iff, numsOk_iff]
  exact ⟨by omega, h2⟩

set_option maxHeartbeats 1000000 in
theorem rput_bad {w : World} {v : Value} {n : Nat} {f : Nat → Int} (a : Int) (h : IntsIn w v n f) (hn : n ≤ 17592186044416) (hx : putE a f n ≠ 0) :
    Calls Tryz.prog 24 #[v, .int .i64 a] w fun e w' => e = .returned (.tuple #[.slice none 0 0, errN (putE a f n)]) ∧ w = w' := by
  have K1 := hide (islow_ok a w)
  cases h1 : lowOk a with
  | false =>
    have HE : Hid (putE a f n = 1) := by unfold Hid putE; rw [h1, Bool.false_and, if_pos rfl]
    rw [h1] at K1
    clear hx h1
    go_enter Tryz.func24, Tryz.ntmps24
    go_wp2_with fail
    refine (K1.out).mono ?_
    rintro e w1 ⟨rfl, rfl⟩
    go_wp2
    go_ret2
    exact ⟨by rw [HE.out]; rfl, rfl⟩
  | true =>
    have K2 := hide (arenum_ok h hn)
    rw [h1] at K1
    cases h2 : numsOk f n with
    | false =>
      have HE : Hid (putE a f n = 1) := by unfold Hid putE; rw [h2, Bool.and_false, if_pos rfl]
      rw [h2] at K2
      clear hx h1 h2
      go_enter Tryz.func24, Tryz.ntmps24
      go_wp2_with fail
      refine (K1.out).mono ?_
      rintro e w1 ⟨rfl, rfl⟩
      go_wp2_with fail
      refine (K2.out).mono ?_
      rintro e w1 ⟨rfl, rfl⟩
      go_wp2
      go_ret2
      exact ⟨by rw [HE.out]; rfl, rfl⟩
    | true =>
      rw [h2] at K2
      have h3 : 2000 < lenN a.toNat f n := by
        refine Nat.lt_of_not_le fun h3 => hx ?_
        unfold putE
        rw [h1, h2, if_neg (by simp), if_neg (by omega)]
      have HE : Hid (putE a f n = 4) := by unfold Hid putE; rw [h1, h2, if_neg (by simp), if_pos h3]
      have hl := lowOk_iff.1 h1
      have hf := numsOk_iff.1 h2
      obtain ⟨low, rfl⟩ := Int.eq_ofNat_of_zero_le hl.1
      rw [Int.toNat_natCast] at h3
      have K3 := hide (length_ok (low := low) h hn (by omega) hf)
      generalize lenN low f n = m at *
      clear hx h1 h2 hf
      go_enter Tryz.func24, Tryz.ntmps24
      go_wp2_with fail
      refine (K1.out).mono ?_
      rintro e w1 ⟨rfl, rfl⟩
      go_wp2_with fail
      refine (K2.out).mono ?_
      rintro e w1 ⟨rfl, rfl⟩
      go_wp2_with fail
      refine (K3.out).mono ?_
      rintro e w1 ⟨rfl, rfl⟩
      go_wp2
      go_ret2
      exact ⟨by rw [HE.out]; rfl, rfl⟩

set_option maxHeartbeats 2000000 in
theorem rput_ok {w : World} {v : Value} {n low : Nat} {f : Nat → Int} (h : IntsIn w v n f) (hl : low ≤ 7) (hf : ∀ i, i < n → -255 ≤ f i ∧ f i ≤ 255) (hm : lenN low f n ≤ 2000) :
    Calls Tryz.prog 24 #[v, .int .i64 low] w fun e w' => ∃ ad cp, e = .returned (.tuple #[.slice ad (lenN low f n) cp, .nilIface]) ∧ w'.ownsRow w.heap.size 3 1 (.slice ad (lenN low f n) cp) (lenN low f n) (encI (rowB low (lst f n))) ∧ Below w.heap.size w w' := by
  have hn0 := lenN_ge (low := low) (f := f) n
  have hn : n ≤ 17592186044416 := by omega
  have K1 := hide (islow_ok (low : Int) w)
  rw [lowOk_iff.2 (by omega)] at K1
  have K2 := hide (arenum_ok h hn)
  rw [numsOk_iff.2 hf] at K2
  have K3 := hide (length_ok (low := low) h hn (by omega) hf)
  obtain ⟨i0, hi0, hz0, hz1, hz2⟩ := info_parts Tryz.infoInt
  have Hi := hide hi0
  have Hz0 := hide hz0
  have Hz1 := hide hz1
  have Hz2 := hide hz2
  have HI := hide h
  have HF := hide hf
  have HM := hide (fun j => lenN_mono (low := low) (f := f) (n := j) (m := n))
  have HLs := hide (fun j => lenN_succ low f j)
  have HRs := hide (fun j => rowB_succ low f j)
  have HLe := hide (fun j => rowB_len low f j)
  have HL0 : Hid (lenN low f 0 = 0) := rfl
  generalize hL : lenN low f = Ln at *
  generalize hMM : Ln n = M at *
  have HMM := hide hMM
  obtain ⟨av, nv, rfl⟩ : ∃ ad cp, v = .slice ad n cp := by
    rcases h with ⟨rfl, a, cap, rfl⟩ | ⟨h0, b, o, cap, rfl, hc⟩
    · exact ⟨_, _, rfl⟩
    · exact ⟨_, _, rfl⟩
  clear h hi0 hz0 hz1 hz2 hf hL hMM
  go_enter Tryz.func24, Tryz.ntmps24
  go_wp2_with fail
  refine (K1.out).mono ?_
  rintro e w1 ⟨rfl, rfl⟩
  go_wp2_with fail
  refine (K2.out).mono ?_
  rintro e w1 ⟨rfl, rfl⟩
  go_wp2_with fail
  refine (K3.out).mono ?_
  rintro e w1 ⟨rfl, rfl⟩
  go_wp2_with (at_make; refine wpList_make_own _ rfl _ _ 23 rfl w.heap.size 3 i0 (.int .i64 0) 1 Tryz.underlying23 Hi.out Hz0.out Hz1.out _ _ _ M rfl rfl rfl (by rw [Hz2.out]; omega) (by unfold maxLen; omega) (Nat.le_refl _) ?_; intro w1 hmk hgrow)
  have HB1 : Hid (Below w.heap.size w w1) := (Below.refl _ _).grown hgrow (Nat.le_refl _) (fun q hq => by cases hq)
  have HX1 := hide hmk
  clear hmk hgrow
  go_loopw [7, 29] (fun u i wr => ∃ (j : Nat) (ad : Option Addr) (cp : Nat), j ≤ n ∧ i = .int .i64 j ∧ u = .slice ad (Ln j) cp ∧ wr.ownsRow w.heap.size 3 1 u (Ln j) (encI (rowB low (lst f j))) ∧ Below w.heap.size w wr) (fun _ i _ => n - (intOf i).toNat)
  case atStart => exact ⟨0, some ⟨w.heap.size, 0, none⟩, M, Nat.zero_le _, rfl, by rw [HL0.out], by rw [HL0.out]; exact HX1.out, HB1.out⟩
  case round =>
    obtain ⟨j, adr, cpr, hj, rfl, rfl, hY, hb⟩ := hrel
    have HY := hide hY
    have HB := hide hb
    clear hY hb
    by_cases hlt : j < n
    · have HI2 := hide (HI.out.below HB.out)
      have hle := HM.out j (by omega)
      have hle2 := HM.out (j + 1) (by omega)
      rw [HLs.out] at hle2
      have K4 := hide (told_ok (f j) wr (HF.out j hlt))
      have K5 := hide (put_ok (x := zz (f j)) (low := low) HB.out.size HY.out (zz_le (HF.out j hlt)) hl (by omega))
      have HQ1 := HRs.out j
      have HQ2 := HLs.out j
      rw [← HQ1, ← HQ2] at K5
      obtain ⟨bb, oo, cpv, hv, hcj⟩ : ∃ bb oo cp, Value.slice av n nv = .slice (some ⟨bb, oo, none⟩) n cp ∧ wr.cell? ⟨bb, oo + j, none⟩ = some (.int .i64 (f j)) := by
        rcases HI2.out with ⟨rfl, _⟩ | ⟨h0, b, o, cap, e, hc⟩
        · omega
        · exact ⟨b, o, cap, e, hc j hlt⟩
      obtain ⟨rfl, rfl⟩ : av = some ⟨bb, oo, none⟩ ∧ nv = cpv := by cases hv; exact ⟨rfl, rfl⟩
      clear hv HQ1 HQ2 hle2
      generalize f j = x at *
      generalize zz x = y at *
      generalize Ln j = m at *
      go_wp2_with fail
      refine (K4.out).mono ?_
      rintro e w3 ⟨rfl, rfl⟩
      go_wp2_with fail
      refine (K5.out).mono ?_
      rintro e w3 ⟨ad3, cp3, rfl, hown3, hb3⟩
      go_wp2
      go_roundw
      case rel =>
        have R : j + 1 ≤ n ∧ Value.int .i64 ((j : Int) + 1) = .int .i64 ((j + 1 : Nat) : Int) ∧ Value.slice ad3 (Ln (j + 1)) cp3 = .slice ad3 (Ln (j + 1)) cp3
            ∧ w3.ownsRow w.heap.size 3 1 (.slice ad3 (Ln (j + 1)) cp3) (Ln (j + 1)) (encI (rowB low (lst f (j + 1)))) ∧ Below w.heap.size w w3 :=
          ⟨by omega, by simp, rfl, hown3, HB.out.trans hb3⟩
        first
          | exact ⟨j + 1, ad3, cp3, R⟩
          | ((repeat apply Exists.intro); exact ⟨⟨j + 1, ad3, cp3, R⟩, rfl⟩)
      case measure => simp [intOf]; omega
    · obtain rfl : j = n := by omega
      rw [HMM.out] at HY
      go_wp2
      go_ret2
      exact ⟨adr, cpr, by show Ending.returned (.tuple #[.slice adr (Ln j) cpr, .nilIface]) = _; rw [HMM.out], HY.out, HB.out⟩
end Go.Proofs.YtjhflcgphejddaaGreatDoor

namespace Go.Proofs.YtjhflcgphejddaaGreatDoor
open Go.RowKit Go.Maps
set_option linter.unusedVariables false
set_option maxRecDepth 100000

theorem fdec_one {w : World} {v : Value} {N : Nat} {C : Nat → Cd} (a b st : Int) (h : CodsIn w v N C) :
    Calls Tryz.prog 16 #[.int .i64 a, .int .i64 b, .int .i64 st, v] w fun e w' => ∃ u, e = .returned (.tuple #[u, errN (seeF a b st N C)]) ∧ Below w.heap.size w w' := by
  by_cases hx : cntF N ≠ 0 ∨ sidF a b st ≠ 0 ∨ (C 0).al = false
  · exact (fdec_bad a b st h hx).mono fun e w' ⟨h1, h2⟩ => ⟨_, h1, h2⟩
  · have h1 : cntF N = 0 := by
      by_cases c : cntF N = 0
      · exact c
      · exact absurd (Or.inl c) hx
    have h2 : sidF a b st = 0 := by
      by_cases c : sidF a b st = 0
      · exact c
      · exact absurd (Or.inr (Or.inl c)) hx
    have h3 : (C 0).al = true := by
      cases c : (C 0).al with
      | true => rfl
      | false => exact absurd (Or.inr (Or.inr c)) hx
    obtain ⟨h1N, h6N⟩ := cntF_zero.1 h1
    have e := seeF_see (C := C) h1N h6N h2 h3
    refine (fdec_walk a b st h h1 h2 h3).mono fun e' w' ⟨h4, h5⟩ => ?_
    rcases h4 with ⟨_, h6⟩ | ⟨h6, u, h7, _⟩
    · exact ⟨_, by rw [e]; exact h6, h5⟩
    · exact ⟨u, by rw [e, h6]; exact h7, h5⟩
theorem bytS_no {a b s : Int} {N : Nat} {C : Nat → Cd} (h : bytF a b s N C ≠ 0) : bytS a b s N C = ByteArray.empty := by unfold bytS; rw [if_neg h]
theorem bytF_see {a b s : Int} {N : Nat} {C : Nat → Cd} (h : seeF a b s N C ≠ 0) : bytF a b s N C = seeF a b s N C := by unfold bytF; rw [if_pos h]
theorem flmB_ge {C : Nat → Cd} : ∀ {N j}, j < N → (codB (C j)).length ≤ (flmB C N).length
  | N + 1, j, h => by
    rw [flmB_step, List.length_append]
    by_cases c : j = N
    · subst c; omega
    · have := flmB_ge (C := C) (N := N) (j := j) (by omega); omega
/-- One that is too long: the film is. -/
theorem bytF_long {a b s : Int} {N j : Nat} {C : Nat → Cd} (h : seeF a b s N C = 0) (hj : j < N) (hl : 2000 < lenN 2 (C j).f (C j).n) : bytF a b s N C = 4 := by
  have h1 := flmB_ge (C := C) hj
  have h2 : lenN 2 (C j).f (C j).n ≤ (codB (C j)).length := by
    unfold codB
    rw [List.length_append, rowB_len]; omega
  unfold bytF
  rw [if_neg (by omega), if_pos (by unfold octs; omega)]
theorem encU_add (n : Nat) (f : Nat → UInt8) : ∀ m, encU (n + m) f = encU n f ++ encU m (fun k => f (n + k))
  | 0 => by simp [encU]
  | m + 1 => by rw [← Nat.add_assoc, encU_snoc, encU_snoc, encU_add n f m, List.append_assoc]
theorem encU_congr {n : Nat} {f g : Nat → UInt8} (h : ∀ i, i < n → f i = g i) : encU n f = encU n g := by
  unfold encU
  refine List.map_congr_left fun i hi => ?_
  rw [h i (List.mem_range.1 hi)]
theorem brow_news {w : World} {g n : Nat} {f : Nat → UInt8} (h : BRow w g n f) : ∀ j u, (encU n f)[j]? = some u → w.cell? ((⟨g, 0, none⟩ : Addr).add j) = some u := fun j u hu => by
  have hj : j < n := by
    have := (List.getElem?_eq_some_iff.1 hu).1
    rw [encU_len] at this; exact this
  have h1 := (h j hj).1
  have h2 : (encU n f)[j]? = some (.int .u8 ((f j).toNat : Int)) := by unfold encU; simp [hj]
  rw [h2] at hu
  cases hu
  have h3 : (⟨g, 0, none⟩ : Addr).add j = ⟨g, j, none⟩ := by simp [Addr.add]; omega
  rw [h3]; exact h1
theorem add_block (g j : Nat) : ((⟨g, 0, none⟩ : Addr).add j).block = g := by unfold Addr.add; split <;> rfl
theorem news_far {w w' : World} {row : Option Nat} (hg : w.grownBy w' row) {g : Nat} {EM : List Value} (h : ∀ j u, EM[j]? = some u → w.cell? ((⟨g, 0, none⟩ : Addr).add j) = some u) (hl : g < w.heap.size) (hne : some g ≠ row) : ∀ j u, EM[j]? = some u → w'.cell? ((⟨g, 0, none⟩ : Addr).add j) = some u :=
  fun j u hu => (hg.cell_far ((⟨g, 0, none⟩ : Addr).add j) (by rw [add_block]; exact hl) (by rw [add_block]; exact hne)).trans (h j u hu)
theorem ownUB {w : World} {B e n : Nat} {v : Value} {xs ys : List Value} (h : ys = xs) (ho : w.ownsRow B e 1 v n xs) : w.ownsRow B e 1 v n ys := h ▸ ho

set_option maxHeartbeats 2000000 in
theorem pack_bad {w : World} {v : Value} {N : Nat} {C : Nat → Cd} (a b st : Int) (h : CodsIn w v N C) (hx : seeF a b st N C ≠ 0) :
    Calls Tryz.prog 6 #[.int .i64 a, .int .i64 b, .int .i64 st, v] w fun e w' => e = .returned (.tuple #[.string (bytS a b st N C), errN (bytF a b st N C)]) ∧ Below w.heap.size w w' := by
  have K := hide (fdec_one a b st h)
  rw [bytS_no (by rw [bytF_see hx]; exact hx), bytF_see hx]
  have he := errN_pos hx
  rw [he] at K ⊢
  obtain ⟨ad, cap, rfl, _, _, _⟩ := h
  clear hx he
  go_enter Tryz.func6, Tryz.ntmps6
  go_wp2_with fail
  refine (K.out).mono ?_
  rintro e w1 ⟨u9, rfl, hb1⟩
  go_wp2
  go_ret2
  exact ⟨rfl, hb1⟩

set_option maxHeartbeats 800000 in
theorem pack_ok {w : World} {v : Value} {N : Nat} {C : Nat → Cd} (a b st : Int) (h : CodsIn w v N C) (hx : seeF a b st N C = 0) :
    Calls Tryz.prog 6 #[.int .i64 a, .int .i64 b, .int .i64 st, v] w fun e w' => e = .returned (.tuple #[.string (bytS a b st N C), errN (bytF a b st N C)]) ∧ Below w.heap.size w w' := by
  have K := hide (fdec_one a b st h)
  obtain ⟨ad, cap, rfl, _, _, h3⟩ := h
  obtain ⟨A, B, o⟩ := see_ok hx
  have h1N := o.one
  have h6N := o.six
  obtain ⟨bb, og, rfl, hc⟩ := h3 (by omega)
  have HC := hide hc
  have HO := hide o
  have HX := hide hx
  have ha : 1 ≤ a ∧ a ≤ 6 := by have := o.wide; have := o.w1; have := o.w6; omega
  have hb : 1 ≤ b ∧ b ≤ 6 := by have := o.high; have := o.h1; have := o.h6; omega
  have hs : 1 ≤ st ∧ st ≤ 64 := ⟨o.s1, o.s2⟩
  have HLen := hide (fun i (hi : i ≤ N) => flmB_len (C := C) o.le (N := i) (fun j hj => o.each j (by omega)))
  have HIn := hide (flmB_in o.each)
  have HSt := hide (flmB_step C)
  have HLo := hide (fun j (hj : j < N) => bytF_long (C := C) hx hj)
  have HF : Hid (bytF a b st N C = if 116 < octs (flmB C N) then 4 else 0) := by unfold Hid bytF; rw [if_neg (by omega)]
  have HS : Hid (¬ 116 < octs (flmB C N) → bytS a b st N C = bytT a b st N (flmB C N)) := fun hc => by unfold bytS; rw [if_pos (by rw [HF.out, if_neg hc])]
  have HS4 := hide (bytS_no (a := a) (b := b) (s := st) (N := N) (C := C))
  obtain ⟨i0, hi0, hz0, hz1, hz2⟩ := info_parts Tryz.infoInt
  obtain ⟨i1, hi1, hy0, hy1, hy2⟩ := info_parts Tryz.infoU8
  have Hi := hide hi0
  have Hz0 := hide hz0
  have Hz1 := hide hz1
  have Hz2 := hide hz2
  have Hj := hide hi1
  have Hy0 := hide hy0
  have Hy1 := hide hy1
  have Hy2 := hide hy2
  rw [hx] at K
  generalize bytF a b st N C = BF at *
  generalize bytS a b st N C = BS at *
  have HL0 : Hid (encI (flmB C 0) = []) := rfl
  have HL00 : Hid ((flmB C 0).length = 0) := rfl
  clear hc h3 hx o hi0 hz0 hz1 hz2 hi1 hy0 hy1 hy2
  go_enter Tryz.func6, Tryz.ntmps6
  go_wp2_with fail
  refine (K.out).mono ?_
  rintro e w1 ⟨u9, rfl, hb1⟩
  have e0 : errN 0 = .nilIface := rfl
  rw [e0]
  have HB1 := hide hb1
  clear hb1 K HX e0
  go_wp2
  go_loopw [12, 30] (fun u i wr => ∃ (j : Nat) (adu : Option Addr) (cpu : Nat), j ≤ N ∧ i = .int .i64 j ∧ u = .slice adu (flmB C j).length cpu ∧ Hid (wr.ownsRow w1.heap.size 3 1 u (flmB C j).length (encI (flmB C j))) ∧ Hid (Below w1.heap.size w1 wr)) (fun _ i _ => N - (intOf i).toNat)
  case atStart => exact ⟨0, none, 0, Nat.zero_le _, rfl, rfl, by unfold Hid; rw [HL0.out, HL00.out]; exact World.ownsRow_nil _ _ _ _, Below.refl _ _⟩
  case round =>
    obtain ⟨j, adu, cpu, hj, rfl, rfl, HR, HB⟩ := hrel
    have BW := hide (below_two HB1.out HB.out)
    by_cases hlt : j < N
    · obtain ⟨s, hs9⟩ := HC.out j hlt
      obtain ⟨e0, e1, e2, e3, hi⟩ := hs9.below BW.out
      have ok := HO.out.each j hlt
      have hle := HO.out.le
      have hn := ok.n
      have hl := HLen.out j (by omega)
      have hl2 : (flmB C j).length ≤ 111918 := by
        have := Nat.mul_le_mul hlt (Nat.le_refl 18653)
        omega
      have HSj := hide (HSt.out j)
      have HLj := hide (HLo.out j hlt)
      have HCo : Hid (codB (C j) = hdB (C j) ++ rowB 2 (lst (C j).f (C j).n)) := rfl
      have HI := hide hi
      have hh5 : (hdB (C j)).length ≤ 5 ∧ 1 ≤ (hdB (C j)).length := by rw [hdB_len]; split <;> omega
      have HRs := hide (fun i (hi : i < (C j).n) => ok.f i (by rw [← hn]; exact hi))
      have hn1 : 1 ≤ (C j).n := by have := HO.out.pos; omega
      have hn36 : (C j).n ≤ 36 := by omega
      have HLr := hide (rowB_len 2 (C j).f (C j).n)
      have HLg := hide (lenN_ge (low := 2) (f := (C j).f) (C j).n)
      obtain ⟨ads, cps, rfl⟩ := slice_shape hi
      have KM : Hid (∀ W, Calls Tryz.prog 25 #[.agg #[.bool (C j).al, .int .i64 (C j).x, .int .i64 (C j).y, .slice ads (C j).n cps]] W fun e w' => ∃ ad cp, e = .returned (.slice ad (hdB (C j)).length cp) ∧ w'.ownsRow W.heap.size 3 1 (.slice ad (hdB (C j)).length cp) (hdB (C j)).length (encI (hdB (C j))) ∧ Below W.heap.size W w') := fun W => mark_ok (.slice ads (C j).n cps) (C j).n (C j).f ok.x ok.y
      have HE : Hid (∀ W, Below wr.heap.size wr W → W.cell? ⟨bb, og + j * 4, none⟩ = some (.bool (C j).al) ∧ W.cell? ⟨bb, og + j * 4 + 1, none⟩ = some (.int .i64 (C j).x) ∧ W.cell? ⟨bb, og + j * 4 + 2, none⟩ = some (.int .i64 (C j).y) ∧ W.cell? ⟨bb, og + j * 4 + 3, none⟩ = some (.slice ads (C j).n cps)) := fun W hW => by
        obtain ⟨x0, x1, x2, x3, _⟩ := hs9.below (below_two BW.out hW)
        exact ⟨x0, x1, x2, x3⟩
      clear hs9 hi ok hle hn hl
      by_cases cl : lenN 2 (C j).f (C j).n ≤ 2000
      · have K := hide (rput_ok (low := 2) HI.out (by omega) HRs.out cl)
        have HLl : Hid (lenN 2 (C j).f (C j).n ≤ 2000) := cl
        generalize (C j).al = al at *
        generalize (C j).x = X at *
        generalize (C j).y = Y at *
        generalize (C j).n = n at *
        generalize (C j).f = f at *
        generalize hdB (C j) = H at *
        generalize codB (C j) = D at *
        generalize hL2 : flmB C (j + 1) = L2 at *
        have HL2 := hide hL2
        clear hL2 cl
        generalize flmB C j = L at *
        have hszr := HB.out.size
        go_wp2_with fail
        refine (K.out).mono ?_
        rintro e w2 ⟨ad2, cp2, rfl, ho2, hb2⟩
        obtain ⟨f0, f1, f2, f3⟩ := HE.out w2 hb2
        clear e0 e1 e2 e3
        go_wp2_with fail
        refine (KM.out w2).mono ?_
        rintro e w3 ⟨ad3, cp3, rfl, ho3, hb3⟩
        obtain ⟨g2, cap2, hge⟩ := Joins.ownsRow_form ho2 (by have := HLg.out; omega)
        obtain ⟨rfl, rfl⟩ : ad2 = some ⟨g2, 0, none⟩ ∧ cp2 = cap2 := by cases hge; exact ⟨rfl, rfl⟩
        obtain ⟨g3, cap3, hge3⟩ := Joins.ownsRow_form ho3 (by omega)
        obtain ⟨rfl, rfl⟩ : ad3 = some ⟨g3, 0, none⟩ ∧ cp3 = cap3 := by cases hge3; exact ⟨rfl, rfl⟩
        have hlg : 1 ≤ lenN 2 f n := by have := HLg.out; omega
        have hln := HLl.out
        have HN2 := hide (World.ownsRow.cells (own_below ho2 hb3) (g := g2) rfl)
        have HG2 : Hid (wr.heap.size ≤ g2 ∧ g2 < w3.heap.size) := by
          have h1 := (ho2.lt g2 rfl).1
          have h2 := (ho2.lt g2 rfl).2
          have h3 := hb3.size
          exact ⟨h1, by omega⟩
        have HN3 := hide (World.ownsRow.cells ho3 (g := g3) rfl)
        have HR3 := hide (own_below (own_below HR.out hb2) hb3)
        have HRl : Hid (∀ k, (Value.slice adu L.length cpu).ownBlock = some k → k < wr.heap.size) := fun k e => (HR.out.lt k e).2
        have HB3 : Hid (Below w1.heap.size wr w3) := (hb2.mono hszr).trans (hb3.mono (by have := hb2.size; omega))
        have hsz3 := HB3.out.size
        have HDe : Hid (encI L2 = encI L ++ encI H ++ encI (rowB 2 (lst f n))) := by
          unfold Hid; rw [HSj.out, HCo.out, ← List.append_assoc]; simp [encI]
        have HDl : Hid (L2.length = L.length + H.length + lenN 2 f n) := by
          unfold Hid; rw [HSj.out, HCo.out, List.length_append, List.length_append, HLr.out]; omega
        have HEl : Hid ((encI (rowB 2 (lst f n))).length = lenN 2 f n) := by unfold Hid; rw [encI_len, HLr.out]
        have HEh : Hid ((encI H).length = H.length) := encI_len _
        clear ho2 ho3 hb2 hb3 hge hge3 K f0 f1 f2 f3
        generalize rowB 2 (lst f n) = RB at *
        generalize lenN 2 f n = M at *
        go_wp2_with (first
          | (at_builtin; refine wpList_append_lies _ rfl _ _ 23 rfl w1.heap.size 3 i0 (.int .i64 0) 1 8 Tryz.underlying23 Hi.out Hz0.out Hz1.out Hz2.out rfl (by decide) _ _ _ rfl HR3.out ⟨g3, 0, none⟩ H.length cp3 (encI H) rfl (by rw [HEh.out]; omega) HN3.out (fun x hx => by simp [encI] at hx; obtain ⟨q, _, rfl⟩ := hx; rfl) (by omega) (by unfold maxLen; omega) (by omega) (by omega) _ rfl ?_; intro g4 cap4 w4 hown4 hgrow4 hat4 hlt4; have HN4 := hide (news_far hgrow4 HN2.out HG2.out.2 (fun e => by have h5 := HRl.out g2 e.symm; have h6 := HG2.out.1; omega)); have hb4 : Below w1.heap.size w3 w4 := (Below.refl w1.heap.size w3).grown hgrow4 (by omega) (fun q hq => (HR3.out.lt q hq).1); have hsz4 := hb4.size)
          | (at_builtin; refine wpList_append_lies _ rfl _ _ 23 rfl w1.heap.size 3 i0 (.int .i64 0) 1 8 Tryz.underlying23 Hi.out Hz0.out Hz1.out Hz2.out rfl (by decide) _ _ _ rfl hown4 ⟨g2, 0, none⟩ M cp2 (encI RB) rfl (by rw [HEl.out]; omega) HN4.out (fun x hx => by simp [encI] at hx; obtain ⟨q, _, rfl⟩ := hx; rfl) (by omega) (by unfold maxLen; omega) (by omega) (by omega) _ rfl ?_; intro g5 cap5 w5 hown5 hgrow5 hat5 hlt5))
        go_roundw
        case rel =>
          have hB5 : Below w1.heap.size w4 w5 := (Below.refl w1.heap.size w4).grown hgrow5 (by omega) (fun q hq => (hown4.lt q hq).1)
          have R : j + 1 ≤ N ∧ Value.int .i64 ((j : Int) + 1) = .int .i64 ((j + 1 : Nat) : Int) ∧ Value.slice (some ⟨g5, 0, none⟩) (L.length + H.length + M) cap5 = .slice (some ⟨g5, 0, none⟩) L2.length cap5 ∧ Hid (w5.ownsRow w1.heap.size 3 1 (.slice (some ⟨g5, 0, none⟩) (L.length + H.length + M) cap5) L2.length (encI L2)) ∧ Hid (Below w1.heap.size w1 w5) :=
            ⟨by omega, by simp, by rw [HDl.out], by unfold Hid; rw [HDl.out, HDe.out]; exact hown5, ((HB.out.trans HB3.out).trans hb4).trans hB5⟩
          first
            | (refine ⟨j + 1, some ⟨g5, 0, none⟩, cap5, ?_⟩; rw [HL2.out]; exact R)
            | (refine ⟨_, ⟨j + 1, some ⟨g5, 0, none⟩, cap5, ?_⟩, rfl⟩; rw [HL2.out]; exact R)
        case measure => simp [intOf]; omega
      · have hE : putE ((2 : Nat) : Int) (C j).f (C j).n = 4 := by
          unfold putE
          rw [if_neg, if_pos (by rw [Int.toNat_natCast]; omega)]
          rw [Bool.not_eq_false, Bool.and_eq_true, lowOk_iff, numsOk_iff]
          exact ⟨by omega, HRs.out⟩
        have K := hide (rput_bad ((2 : Nat) : Int) HI.out (by omega) (by rw [hE]; omega))
        rw [hE] at K
        have hBF := HLj.out (by omega)
        have hBS := HS4.out (by omega)
        have e4 : errN 4 = .iface 61 (.int .i64 4) := rfl
        have HBF := hide hBF
        have HBS := hide hBS
        rw [e4] at K
        clear hBF hBS hE KM HE cl
        generalize (C j).n = n at *
        go_wp2_with fail
        refine (K.out).mono ?_
        rintro e w2 ⟨rfl, rfl⟩
        go_wp2
        go_ret2
        exact ⟨by rw [HBS.out, HBF.out, e4]; rfl, BW.out⟩
    · obtain rfl : j = N := by omega
      have hl := HLen.out j (Nat.le_refl _)
      have hl2 : (flmB C j).length ≤ 111918 := by
        have := Nat.mul_le_mul h6N (Nat.le_refl 18653)
        omega
      have hl1 : 1 ≤ (flmB C j).length := by
        have h1 := flmB_ge (C := C) (N := j) (j := 0) (by omega)
        have h2 : 1 ≤ (codB (C 0)).length := by
          unfold codB
          rw [List.length_append, hdB_len]; split <;> omega
        omega
      generalize flmB C j = L at *
      have u1 : IntKind.u8.wrap a = a := by rw [IntKind.wrap_u8]; omega
      have u2 : IntKind.u8.wrap b = b := by rw [IntKind.wrap_u8]; omega
      have u3 : IntKind.u8.wrap st = st := by rw [IntKind.wrap_u8]; omega
      have u4 : IntKind.u8.wrap (j : Int) = (j : Int) := by rw [IntKind.wrap_u8]; omega
      have hszr := HB.out.size
      have hwr := BW.out.size
      have hO4 : (wr.alloc (.cells #[.int .u8 a, .int .u8 b, .int .u8 st, .int .u8 (j : Int)] 5)).ownsRow wr.heap.size 5 1 (.slice (some ⟨wr.heap.size, 0, none⟩) 4 4) 4 (encU 4 (byU a b st j L)) := by
        have h9 := own_lit (e := 5) wr (B := wr.heap.size) #[.int .u8 a, .int .u8 b, .int .u8 st, .int .u8 (j : Int)] (Nat.le_refl _) (by simp [maxLen])
        have q0 : ((byU a b st j L 0).toNat : Int) = a := by show (((UInt8.ofNat a.toNat).toNat : Nat) : Int) = a; rw [u8_of (by omega)]; omega
        have q1 : ((byU a b st j L 1).toNat : Int) = b := by show (((UInt8.ofNat b.toNat).toNat : Nat) : Int) = b; rw [u8_of (by omega)]; omega
        have q2 : ((byU a b st j L 2).toNat : Int) = st := by show (((UInt8.ofNat st.toNat).toNat : Nat) : Int) = st; rw [u8_of (by omega)]; omega
        have q3 : ((byU a b st j L 3).toNat : Int) = (j : Int) := by show (((UInt8.ofNat j).toNat : Nat) : Int) = j; rw [u8_of (by omega)]
        have e4 : encU 4 (byU a b st j L) = [.int .u8 a, .int .u8 b, .int .u8 st, .int .u8 (j : Int)] := by
          rw [encU_snoc, encU_snoc, encU_snoc, encU_snoc, q0, q1, q2, q3]; rfl
        rw [e4]
        exact h9
      have HTe : Hid (bytT a b st j L = bytesB (4 + octs L) (byU a b st j L)) := rfl
      have HUU : Hid (encU (4 + octs L) (byU a b st j L) = encU 4 (byU a b st j L) ++ encU (octs L) (fun k => UInt8.ofNat (octN L k))) := by
        unfold Hid
        rw [encU_add]
        congr 1
        refine encU_congr fun i _ => ?_
        unfold byU
        rw [if_neg (by omega), if_neg (by omega), if_neg (by omega), if_neg (by omega), show 4 + i - 4 = i by omega]
      generalize byU a b st j L = U at *
      obtain ⟨wl, hwl⟩ : ∃ wl, wl = wr.alloc (.cells #[.int .u8 a, .int .u8 b, .int .u8 st, .int .u8 (j : Int)] 5) := ⟨_, rfl⟩
      rw [← hwl] at hO4
      have brl : Below wr.heap.size wr wl := hwl ▸ (Below.refl _ _).alloc (Nat.le_refl _) _
      have HGL : Hid (IntsIn wl (.slice adu L.length cpu) L.length (fun k => L.getD k 0)) := (rowV_in HR.out rfl).below brl
      have KW := hide (whole_ok HGL.out HIn.out (by omega))
      have HO4 := hide hO4
      have HWL := hide hwl
      have HBl := hide (below_two BW.out brl)
      have hzl : wr.heap.size ≤ wl.heap.size := brl.size
      have hML : octs L ≤ 14000 ∧ 1 ≤ octs L := by unfold octs; omega
      clear hO4 hwl brl HR
      go_upto_region 14 with fail
      rw [← HWL.out]
      clear HWL
      go_wp2_with fail
      refine (KW.out).mono ?_
      rintro e w3 ⟨g3, rfl, hg3a, hg3b, hbr, hb3⟩
      have HN3 := hide (brow_news hbr)
      have HO3 := hide (own_below HO4.out hb3)
      have HB3 := hide (below_two HBl.out hb3)
      have hz3 := hb3.size
      generalize hM : octs L = M at *
      have HEm : Hid ((encU M (fun k => UInt8.ofNat (octN L k))).length = M) := encU_len _ _
      have HEo : Hid (∀ x, x ∈ encU M (fun k => UInt8.ofNat (octN L k)) → x.oneCell' = true) := fun x hx => by
        obtain ⟨i, _, rfl⟩ := List.mem_map.1 hx
        rfl
      generalize encU M (fun k => UInt8.ofNat (octN L k)) = EM at *
      clear KW hbr hb3 HO4 HBl
      by_cases c : 116 < M
      · have e1 := HF.out
        rw [if_pos c] at e1
        have HE1 := hide e1
        have HE2 := hide (HS4.out (by omega))
        have e4 : errN 4 = .iface 61 (.int .i64 4) := rfl
        clear e1
        go_wp2_with (at_builtin; refine wpList_append_lies _ rfl _ _ 74 rfl wr.heap.size 5 i1 (.int .u8 0) 1 1 Tryz.underlying74 Hj.out Hy0.out Hy1.out Hy2.out rfl (by decide) _ _ _ rfl HO3.out ⟨g3, 0, none⟩ M M EM rfl (by rw [HEm.out]; omega) HN3.out HEo.out (by omega) (by unfold maxLen; omega) (by omega) (by omega) _ rfl ?_; intro g5 cap5 w5 hown5 hgrow5 hat5 hlt5; have hB5 : Below wr.heap.size w3 w5 := (Below.refl wr.heap.size w3).grown hgrow5 (by omega) (fun q hq => (HO3.out.lt q hq).1); have HB5 : Hid (Below w.heap.size w w5) := HB3.out.trans (hB5.mono hwr); have hbk := back_row (cap := cap5) (encU_row (ownUB HUU.out hown5)))
        go_ret2
        exact ⟨by rw [HE1.out, HE2.out, e4]; rfl, HB5.out⟩
      · have e1 := HF.out
        rw [if_neg c] at e1
        have HE1 := hide e1
        have HE2 := hide ((HS.out c).trans HTe.out)
        clear e1
        go_wp2_with (at_builtin; refine wpList_append_lies _ rfl _ _ 74 rfl wr.heap.size 5 i1 (.int .u8 0) 1 1 Tryz.underlying74 Hj.out Hy0.out Hy1.out Hy2.out rfl (by decide) _ _ _ rfl HO3.out ⟨g3, 0, none⟩ M M EM rfl (by rw [HEm.out]; omega) HN3.out HEo.out (by omega) (by unfold maxLen; omega) (by omega) (by omega) _ rfl ?_; intro g5 cap5 w5 hown5 hgrow5 hat5 hlt5; have hB5 : Below wr.heap.size w3 w5 := (Below.refl wr.heap.size w3).grown hgrow5 (by omega) (fun q hq => (HO3.out.lt q hq).1); have HB5 : Hid (Below w.heap.size w w5) := HB3.out.trans (hB5.mono hwr); have hbk := back_row (cap := cap5) (encU_row (ownUB HUU.out hown5)))
        go_ret2
        exact ⟨by rw [HE1.out, HE2.out]; rfl, HB5.out⟩
theorem pack_any {w : World} {v : Value} {N : Nat} {C : Nat → Cd} (a b st : Int) (h : CodsIn w v N C) :
    Calls Tryz.prog 6 #[.int .i64 a, .int .i64 b, .int .i64 st, v] w fun e w' => e = .returned (.tuple #[.string (bytS a b st N C), errN (bytF a b st N C)]) ∧ Below w.heap.size w w' := by
  by_cases hx : seeF a b st N C = 0
  · exact pack_ok a b st h hx
  · exact pack_bad a b st h hx
end Go.Proofs.YtjhflcgphejddaaGreatDoor

namespace Go.Proofs.YtjhflcgphejddaaGreatDoor
open Go.RowKit Go.Maps
set_option linter.unusedVariables false
set_option maxRecDepth 100000

/-- A bit of the bytes of a text. -/
def bitT (t : ByteArray) (j : Nat) : Int := unO (fun i => (atB t i).toNat) j
theorem bitT_in (t : ByteArray) (j : Nat) : bitT t j = 0 ∨ bitT t j = 1 := unO_in _ _

set_option maxHeartbeats 2000000 in
theorem apart_ok {w : World} (t : ByteArray) (ht : t.size ≤ 200) :
    Calls Tryz.prog 82 #[.string t] w fun e w' => ∃ g cp, e = .returned (.slice (some ⟨g, 0, none⟩) (8 * t.size) cp) ∧ w'.ownsRow w.heap.size 3 1 (.slice (some ⟨g, 0, none⟩) (8 * t.size) cp) (8 * t.size) (encI (lst (bitT t) (8 * t.size))) ∧ Below w.heap.size w w' := by
  obtain ⟨i0, hi0, hz0, hz1, hz2⟩ := info_parts Tryz.infoInt
  have Hi := hide hi0
  have Hz0 := hide hz0
  have Hz1 := hide hz1
  have Hz2 := hide hz2
  obtain ⟨n, hn⟩ : ∃ n, n = 8 * t.size := ⟨_, rfl⟩
  have hni : (8 : Int) * (t.size : Int) = (n : Int) := by omega
  have hn2 : n ≤ 1600 := by omega
  rw [← hn]
  have HN := hide hn
  clear hi0 hz0 hz1 hz2 hn
  go_enter Tryz.func82, Tryz.ntmps82
  go_wp2_with (at_make; refine wpList_make_own _ rfl _ _ 23 rfl w.heap.size 3 i0 (.int .i64 0) 1 Tryz.underlying23 Hi.out Hz0.out Hz1.out _ _ _ n rfl rfl rfl (by rw [Hz2.out]; omega) (by unfold maxLen; omega) (Nat.le_refl _) ?_; intro w1 hmk hgrow)
  have HB1 : Hid (Below w.heap.size w w1) := (Below.refl _ _).grown hgrow (Nat.le_refl _) (fun q hq => by cases hq)
  have HX1 := hide hmk
  clear hmk hgrow
  go_loopw [3, 12] (fun u i wr => ∃ (j g : Nat) (cp : Nat), j ≤ n ∧ i = .int .i64 j ∧ u = .slice (some ⟨g, 0, none⟩) j cp ∧ wr.ownsRow w.heap.size 3 1 u j (encI (lst (bitT t) j)) ∧ Below w.heap.size w wr) (fun _ i _ => n - (intOf i).toNat)
  case atStart => exact ⟨0, w.heap.size, n, Nat.zero_le _, rfl, rfl, HX1.out, HB1.out⟩
  case round =>
    obtain ⟨j, adr, cpr, hj, rfl, rfl, hY, hb⟩ := hrel
    have HY := hide hY
    have HB := hide hb
    have hsz := hb.size
    clear hY hb
    by_cases hlt : j < n
    · obtain ⟨p, r, hpr, hr8⟩ : ∃ p r, j = 8 * p + r ∧ r < 8 := ⟨j / 8, j % 8, by omega, by omega⟩
      have hpt : p < t.size := by have := HN.out; omega
      have d1 : ((j : Nat) : Int).tdiv 8 = (p : Int) := by rw [Int.tdiv_eq_ediv_of_nonneg (by omega)]; omega
      have d2 : ((j : Nat) : Int) / 8 = (p : Int) := by omega
      have d3 : ((j : Nat) : Int).tmod 8 = (r : Int) := by rw [Int.tmod_eq_emod_of_nonneg (by omega)]; omega
      have d4 : ((j : Nat) : Int) % 8 = (r : Int) := by omega
      obtain ⟨c, hc⟩ : ∃ c, c = 7 - r := ⟨_, rfl⟩
      have hc7 : c ≤ 7 := by omega
      have d5 : (7 : Int) - (r : Int) = (c : Int) := by omega
      obtain ⟨x, hx⟩ : ∃ x, x = (atB t p).toNat := ⟨_, rfl⟩
      have q3 : (t[p]'hpt).toNat = x := by rw [hx, atB_eq t p hpt]
      have hx8 : x < 256 := by rw [hx]; exact (atB t p).toNat_lt
      obtain ⟨Z, hZ⟩ : ∃ Z, Z = x / 2 ^ c := ⟨_, rfl⟩
      have hZ8 : Z < 256 := by rw [hZ]; exact Nat.lt_of_le_of_lt (Nat.div_le_self _ _) hx8
      have e1 : ((x : Nat) : Int) / 2 ^ c = ((Z : Nat) : Int) := by rw [hZ, Int.natCast_ediv, Int.natCast_pow]; rfl
      obtain ⟨z, hz⟩ : ∃ z, z = Z % 2 := ⟨_, rfl⟩
      have e2 : bits .and .u8 ((Z : Nat) : Int) 1 = ((z : Nat) : Int) := by
        have h9 := u8_and_nat Z 1 hZ8 (by omega)
        rw [Nat.and_one_is_mod, ← hz] at h9
        exact h9
      have hz1 : z ≤ 1 := by omega
      have HT : Hid (bitT t j = ((z : Nat) : Int)) := by
        unfold Hid bitT unO bitU
        show (((atB t (j / 8)).toNat / 2 ^ (7 - j % 8) % 2 : Nat) : Int) = _
        rw [show j / 8 = p by omega, show j % 8 = r by omega, ← hx, ← hc, ← hZ, ← hz]
      have u1 : IntKind.i64.wrap ((z : Nat) : Int) = ((z : Nat) : Int) := by rw [IntKind.wrap_i64]; omega
      have HS := hide (lst_succ (bitT t) j)
      have hpi : ((p : Nat) : Int) < (t.size : Int) := by omega
      clear hZ hz hc hx hpr
      go_wp2_with (at_builtin; refine wpList_append_lies _ rfl _ _ 23 rfl w.heap.size 3 i0 (.int .i64 0) 1 8 Tryz.underlying23 Hi.out Hz0.out Hz1.out Hz2.out rfl (by decide) _ _ _ rfl (HY.out.alloc _) ⟨wr.heap.size, 0, none⟩ 1 1 [.int .i64 ((z : Nat) : Int)] rfl rfl (cell_one_new _ _ _) (fun x hx => by simp at hx; subst hx; rfl) (by decide) (by unfold maxLen; omega) (by omega) (by simp; omega) _ rfl ?_; intro g3 cap3 w5 hown3 hgrow3 hat3 hlt3)
      go_roundw
      case rel =>
        have hB5 : Below w.heap.size wr w5 := ((Below.refl w.heap.size wr).alloc hsz _).grown hgrow3 (by simp; omega) (fun q hq => (HY.out.lt q hq).1)
        have R : j + 1 ≤ n ∧ Value.int .i64 ((j : Int) + 1) = .int .i64 ((j + 1 : Nat) : Int) ∧ Value.slice (some ⟨g3, 0, none⟩) (j + 1) cap3 = .slice (some ⟨g3, 0, none⟩) (j + 1) cap3
            ∧ w5.ownsRow w.heap.size 3 1 (.slice (some ⟨g3, 0, none⟩) (j + 1) cap3) (j + 1) (encI (lst (bitT t) (j + 1))) ∧ Below w.heap.size w w5 :=
          ⟨by omega, by simp, rfl, by rw [HS.out, encI_snoc, HT.out]; exact hown3, HB.out.trans hB5⟩
        first
          | exact ⟨j + 1, g3, cap3, R⟩
          | ((repeat apply Exists.intro); exact ⟨⟨j + 1, g3, cap3, R⟩, rfl⟩)
      case measure => simp [intOf]; omega
    · obtain rfl : j = n := by omega
      go_wp2
      go_ret
      exact ⟨adr, cpr, rfl, HY.out, HB.out⟩
end Go.Proofs.YtjhflcgphejddaaGreatDoor
