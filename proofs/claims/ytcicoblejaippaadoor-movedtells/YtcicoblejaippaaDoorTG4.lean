/-
  Lemmas for the law above, joined into one text (PicE, RPicO). No statement is proved here.
-/
import Derived.Test.YtcicoblejaippaaDoorTG3
import Derived.Test.YtcicoblejaippaaDoorTG0
import Derived.Laws.Cover1
import Derived.Test.YtcicoblejaippaaDoorTG2
namespace Go.Proofs.YtcicoblejaippaaDoor
open Go.RowKit
set_option linter.unusedVariables false
set_option maxRecDepth 100000

/-- The error that stands for a number: nil for 0. -/
def errN (f : Nat) : Value := if f = 0 then .nilIface else .iface 54 (.int .i64 f)
theorem errN_pos {k : Nat} (h : k ≠ 0) : errN k = .iface 54 (.int .i64 k) := by unfold errN; rw [if_neg h]
theorem errN_zero : errN 0 = .nilIface := rfl
theorem errN_one : errN 1 = .iface 54 (.int .i64 1) := rfl
theorem errN_three : errN 3 = .iface 54 (.int .i64 3) := rfl

def sideOk (n : Int) : Bool := decide (1 ≤ n) && decide (n ≤ 6)
def pixelOk (n : Int) : Bool := decide (0 ≤ n) && decide (n ≤ 255)
def farOk (n : Int) : Bool := decide (-6 ≤ n) && decide (n ≤ 6)
theorem sideOk_iff {n : Int} : sideOk n = true ↔ 1 ≤ n ∧ n ≤ 6 := by simp [sideOk]
theorem sideOk_not {n : Int} : sideOk n = false ↔ n < 1 ∨ 6 < n := by rw [← Bool.not_eq_true, sideOk_iff]; omega
theorem pixelOk_iff {n : Int} : pixelOk n = true ↔ 0 ≤ n ∧ n ≤ 255 := by simp [pixelOk]
theorem pixelOk_not {n : Int} : pixelOk n = false ↔ n < 0 ∨ 255 < n := by rw [← Bool.not_eq_true, pixelOk_iff]; omega
theorem farOk_iff {n : Int} : farOk n = true ↔ -6 ≤ n ∧ n ≤ 6 := by simp [farOk]
theorem farOk_not {n : Int} : farOk n = false ↔ n < -6 ∨ 6 < n := by rw [← Bool.not_eq_true, farOk_iff]; omega
theorem sides_two {a b : Int} : sidesOk a b = (sideOk a && sideOk b) := by
  simp [sidesOk, sideOk, Bool.and_assoc]

theorem pside_ok (n : Int) (w : World) : Calls Tryd.prog 36 #[.int .i64 n] w fun e w' => e = .returned (.bool (sideOk n)) ∧ w = w' := by
  rcases Int.lt_or_le n 1 with h | h
  · go_enter Tryd.func36, Tryd.ntmps36
    go_wp2
    go_ret
    exact ⟨ret_bool (sideOk_not.2 (Or.inl h)).symm, rfl⟩
  · rcases Int.lt_or_le 6 n with k | k
    · go_enter Tryd.func36, Tryd.ntmps36
      go_wp2
      go_ret
      exact ⟨ret_bool (by first | exact (sideOk_not.2 (Or.inr k)).symm | (rw [Bool.eq_iff_iff, sideOk_iff, decide_eq_true_iff]; omega)), rfl⟩
    · go_enter Tryd.func36, Tryd.ntmps36
      go_wp2
      go_ret
      exact ⟨ret_bool (sideOk_iff.2 ⟨h, k⟩).symm, rfl⟩
theorem ppixel_ok (n : Int) (w : World) : Calls Tryd.prog 39 #[.int .i64 n] w fun e w' => e = .returned (.bool (pixelOk n)) ∧ w = w' := by
  rcases Int.lt_or_le n 0 with h | h
  · go_enter Tryd.func39, Tryd.ntmps39
    go_wp2
    go_ret
    exact ⟨ret_bool (pixelOk_not.2 (Or.inl h)).symm, rfl⟩
  · rcases Int.lt_or_le 255 n with k | k
    · go_enter Tryd.func39, Tryd.ntmps39
      go_wp2
      go_ret
      exact ⟨ret_bool (by first | exact (pixelOk_not.2 (Or.inr k)).symm | (rw [Bool.eq_iff_iff, pixelOk_iff, decide_eq_true_iff]; omega)), rfl⟩
    · go_enter Tryd.func39, Tryd.ntmps39
      go_wp2
      go_ret
      exact ⟨ret_bool (pixelOk_iff.2 ⟨h, k⟩).symm, rfl⟩
end Go.Proofs.YtcicoblejaippaaDoor

namespace Go.Proofs.YtcicoblejaippaaDoor
open Go.RowKit
set_option linter.unusedVariables false
set_option maxRecDepth 100000

set_option maxHeartbeats 1000000 in
theorem rpic_ok {w : World} {s : Value} {n : Nat} {f : Nat → Int} (a b : Int) (h : IntsIn w s n f) :
    Calls Tryd.prog 15 #[.agg #[.int .i64 a, .int .i64 b, s]] w fun e w' => e = .returned (.int .i64 (picF a b n f : Nat)) ∧ Below w.heap.size w w' := by
  have hb0 : Below w.heap.size w (w.alloc (.cells #[.int .i64 a, .int .i64 b, s] 24)) := (Below.refl _ _).alloc (Nat.le_refl _) _
  have HB := hide hb0
  have H0 := hide (h.below hb0)
  obtain ⟨⟨c0, _⟩, ⟨c1, _⟩, c2, _⟩ := picIn_new w a b s
  obtain ⟨ad, cap, rfl⟩ : ∃ ad cap, s = .slice ad n cap := by
    rcases h with ⟨rfl, a, c, rfl⟩ | ⟨_, b, o, c, rfl, _⟩
    · exact ⟨_, _, rfl⟩
    · exact ⟨_, _, rfl⟩
  have HP : Hid (picF a b n f = if sidesOk a b = false then 1 else if (n : Int) ≠ a * b then 3 else if pixOk n f = false then 1 else 0) := rfl
  clear hb0 h
  by_cases hs : 1 ≤ a ∧ a ≤ 6 ∧ 1 ≤ b ∧ b ≤ 6
  · have hsid := sidesOk_iff.2 hs
    obtain ⟨s1, s2, s3, s4⟩ := hs
    have hp0 : 0 ≤ a * b := Int.mul_nonneg (by omega) (by omega)
    have hp1 : a * b ≤ 36 := by
      have e1 : a * b ≤ 6 * b := Int.mul_le_mul_of_nonneg_right (by omega) (by omega)
      omega
    rw [hsid, if_neg (by simp)] at HP
    clear hsid
    by_cases hn : (n : Int) = a * b
    · have hn1 : ((n : Int) == a * b) = true := by rw [beq_iff_eq]; exact hn
      have hn3 : ((n : Int) != a * b) = false := by simp [bne, hn1]
      have hn2 : n ≤ 36 := by omega
      have hn0 : 0 < n := by
        have e1 : 1 * b ≤ a * b := Int.mul_le_mul_of_nonneg_right (by omega) (by omega)
        omega
      rw [if_neg (by simp [hn])] at HP
      clear hn
      obtain ⟨bb, oo, rfl, hc⟩ : ∃ bb oo, ad = some ⟨bb, oo, none⟩ ∧ ∀ i, i < n → (w.alloc (.cells #[.int .i64 a, .int .i64 b, .slice ad n cap] 24)).cell? ⟨bb, oo + i, none⟩ = some (.int .i64 (f i)) := by
        rcases H0.out with ⟨h, _⟩ | ⟨_, b', o', c', e, hc⟩
        · omega
        · cases e
          exact ⟨_, _, rfl, hc⟩
      have HC := hide hc
      clear H0 hc
      go_enter Tryd.func15, Tryd.ntmps15
      go_wp2
      go_loop [3] (fun i => ∃ j : Nat, j ≤ n ∧ i = .int .i64 j ∧ ∀ q, q < j → 0 ≤ f q ∧ f q ≤ 255) (fun i => n - (intOf i).toNat)
      case atStart => exact ⟨0, Nat.zero_le _, rfl, fun q hq => absurd hq (Nat.not_lt_zero _)⟩
      case round =>
        obtain ⟨j, hj, rfl, hno⟩ := hrel
        have HN := hide hno
        clear hno
        by_cases hlt : j < n
        · have hcj := HC.out j hlt
          by_cases hx : 0 ≤ f j ∧ f j ≤ 255
          · have HX := hide hx
            obtain ⟨x0, x1⟩ := hx
            generalize hz : f j = z at *
            have HZ := hide hz
            clear hz
            go_wp2
            go_round
            case rel =>
              refine ⟨j + 1, by omega, by go_num, fun q hq => ?_⟩
              by_cases c : q = j
              · rw [c, HZ.out]; exact HX.out
              · exact HN.out q (by omega)
            case measure => simp [intOf]; omega
          · have HE : Hid (picF a b n f = 1) := by
              unfold Hid
              rw [HP.out, if_pos]
              rw [← Bool.not_eq_true, pixOk_iff]
              exact fun h => hx (h j hlt)
            have hx' : f j < 0 ∨ (0 ≤ f j ∧ 255 < f j) := by omega
            clear hx
            generalize f j = z at *
            rcases hx' with x0 | ⟨x0, x1⟩
            · go_wp2
              go_ret
              exact ⟨by rw [HE.out]; rfl, HB.out⟩
            · go_wp2
              go_ret
              exact ⟨by rw [HE.out]; rfl, HB.out⟩
        · obtain rfl : j = n := by omega
          have HE : Hid (picF a b j f = 0) := by
            unfold Hid
            rw [HP.out, if_neg]
            rw [pixOk_iff.2 HN.out]; simp
          go_wp2
          go_ret
          exact ⟨by rw [HE.out]; rfl, HB.out⟩
    · have hn1 : ((n : Int) == a * b) = false := by rw [beq_eq_false_iff_ne]; exact hn
      have hn3 : ((n : Int) != a * b) = true := by simp [bne, hn1]
      have HE : Hid (picF a b n f = 3) := by unfold Hid; rw [HP.out, if_pos hn]
      clear hn HP H0
      go_enter Tryd.func15, Tryd.ntmps15
      go_wp2
      go_ret
      exact ⟨by rw [HE.out]; rfl, HB.out⟩
  · have HE : Hid (picF a b n f = 1) := by
      unfold Hid
      rw [HP.out, if_pos]
      rw [← Bool.not_eq_true, sidesOk_iff]; exact hs
    have h' : a < 1 ∨ (1 ≤ a ∧ 6 < a) ∨ (1 ≤ a ∧ a ≤ 6 ∧ b < 1) ∨ (1 ≤ a ∧ a ≤ 6 ∧ 1 ≤ b ∧ 6 < b) := by omega
    clear hs HP H0
    rcases h' with h | ⟨h1, h⟩ | ⟨h1, h2, h⟩ | ⟨h1, h2, h3, h⟩ <;>
    · go_enter Tryd.func15, Tryd.ntmps15
      go_wp2
      go_ret
      exact ⟨by rw [HE.out]; rfl, HB.out⟩

end Go.Proofs.YtcicoblejaippaaDoor
