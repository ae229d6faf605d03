/-
  PictureStill: not moved a picture is itself, and what is flat is so however it is moved: for every input. Our own walk of the law.
-/
import Derived.Test.YtikkpppkjfploaaPicS
import Derived.Test.YtikkpppkjfploaaPicF
import Derived.Test.YtikkpppkjfploaaPicQ
import Derived.Test.YtikkpppkjfploaaPicA
import Derived.Test.YtikkpppkjfploaaTop
namespace Go.Proofs.Ytikkpppkjfploaa
open Go.ChangeShapes Go.WideShapes Go.ChangeAt Go.RowKit
set_option linter.unusedVariables false
set_option maxRecDepth 100000

theorem pics_same {v v2 : Value} {n : Nat} {f g : Nat → Int} {w : World} (a b : Int) (hn : n ≤ 1000000) (h : IntsIn w v n f) (h2 : IntsIn w v2 n g) (e : ∀ i, i < n → f i = g i) :
    Calls Try.prog 6 #[.agg #[.int .i64 a, .int .i64 b, v], .agg #[.int .i64 a, .int .i64 b, v2]] w fun e w' => e = .returned (.bool true) ∧ Below w.heap.size w w' := by
  refine (pics_any a b a b hn h h2).mono ?_
  rintro x w' ⟨r, rfl, hr, hb⟩
  rw [hr.2 ⟨rfl, rfl, rfl, e⟩]
  exact ⟨rfl, hb⟩
theorem slice_of {w : World} {v : Value} {n : Nat} {f : Nat → Int} (h : IntsIn w v n f) : ∃ ad cap, v = .slice ad n cap := by
  rcases h with ⟨rfl, a, c, rfl⟩ | ⟨_, b, o, c, rfl, _⟩
  · exact ⟨_, _, rfl⟩
  · exact ⟨_, _, rfl⟩

set_option maxHeartbeats 4000000 in
theorem still_walk {w : World} (a b : Int) (s : Value) (n : Nat) (f : Nat → Int) (hs : IntsIn w s n f) (wide high k mx my : Int) :
    Calls Try.prog 4 #[.agg #[.int .i64 a, .int .i64 b, s], .int .i64 wide, .int .i64 high, .int .i64 k, .agg #[.int .i64 mx, .int .i64 my]] w fun e w' => e = .returned (.bool true) ∧ Below w.heap.size w w' := by
  have HF : Hid (wide < 1 ∨ (1 ≤ wide ∧ 6 < wide) ∨ (1 ≤ wide ∧ wide ≤ 6 ∧ high < 1) ∨ (1 ≤ wide ∧ wide ≤ 6 ∧ 1 ≤ high ∧ 6 < high) ∨ (1 ≤ wide ∧ wide ≤ 6 ∧ 1 ≤ high ∧ high ≤ 6 ∧ k < 0) ∨ (1 ≤ wide ∧ wide ≤ 6 ∧ 1 ≤ high ∧ high ≤ 6 ∧ 0 ≤ k ∧ 255 < k) ∨ ∃ A2 B2 : Nat, wide = A2 ∧ high = B2 ∧ 1 ≤ A2 ∧ A2 ≤ 6 ∧ 1 ≤ B2 ∧ B2 ≤ 6 ∧ 0 ≤ k ∧ k ≤ 255) := by
    unfold Hid
    by_cases c : 1 ≤ wide ∧ wide ≤ 6 ∧ 1 ≤ high ∧ high ≤ 6 ∧ 0 ≤ k ∧ k ≤ 255
    · exact Or.inr (Or.inr (Or.inr (Or.inr (Or.inr (Or.inr ⟨wide.toNat, high.toNat, by omega, by omega, by omega, by omega, by omega, by omega, by omega, by omega⟩)))))
    · omega
  obtain ⟨W1, hW1⟩ : ∃ W1, W1 = w.alloc (.cells #[.int .i64 a, .int .i64 b, s] 24) := ⟨_, rfl⟩
  obtain ⟨W2, hW2⟩ : ∃ W2, W2 = W1.alloc (.cells #[.int .i64 mx, .int .i64 my] 26) := ⟨_, rfl⟩
  have b1 : Below w.heap.size w W1 := hW1 ▸ (Below.refl _ _).alloc (Nat.le_refl _) _
  have b12 : Below W1.heap.size W1 W2 := hW2 ▸ (Below.refl _ _).alloc (Nat.le_refl _) _
  have b2 := below_two b1 b12
  have z1 : W1.heap.size = w.heap.size + 1 := by rw [hW1]; simp
  have p1 : PicIn W2 w.heap.size a b s := PicIn.below (hW1 ▸ picIn_new w a b s) b12
  have p2 : MoveIn W2 (w.heap.size + 1) mx my := by
    have := moveIn_new W1 mx my
    rw [← hW2, z1] at this
    exact this
  have P1 := hide p1
  have P2 := hide p2
  have B0 := hide b2
  have HS := hide (hs.below b2)
  obtain ⟨ads, caps, rfl⟩ := slice_of hs
  clear hs b1 b12 b2 z1 p1 p2
  by_cases hp : picF a b n f = 0
  · obtain ⟨A, B, o⟩ := picF_zero.1 hp
    have K1 := hide (pshift_ok 0 0 HS.out o (by decide))
    have hn := o.le
    have ea := o.wide
    have eb := o.high
    have HI : Hid (∀ i, i < n → shiftN A B 0 0 f i = f i) := fun i hi => by unfold shiftN; rw [fromAt_zero o.w1 (by rw [← o.many]; exact hi)]
    subst ea
    subst eb
    subst hW2
    subst hW1
    clear o hp
    go_enter Try.func4, Try.ntmps4
    go_wp2_with fail
    refine (K1.out).mono ?_
    rintro e w1 ⟨v1, rfl, hv1, hb1⟩
    obtain ⟨ad1, cap1, rfl⟩ := slice_of hv1
    obtain ⟨W3, hW3⟩ : ∃ W3, W3 = w1.alloc (.cells #[.int .i64 A, .int .i64 B, .slice ad1 n cap1] 24) := ⟨_, rfl⟩
    have b13 : Below w1.heap.size w1 W3 := hW3 ▸ (Below.refl _ _).alloc (Nat.le_refl _) _
    have B1 := hide (below_two (below_two B0.out hb1) b13)
    have P3 : Hid (PicIn W3 w1.heap.size A B (.slice ad1 n cap1)) := hide (hW3 ▸ picIn_new w1 _ _ _)
    have Q3 := hide ((P1.out.below hb1).below b13)
    have K2 := hide (pics_same A B (by omega) (hv1.below b13) ((HS.out.below hb1).below b13) HI.out)
    have HM3 := hide ((P2.out.below hb1).below b13)
    obtain ⟨⟨c0, _⟩, ⟨c1, _⟩, c2, _⟩ := P3.out
    obtain ⟨⟨c3, _⟩, ⟨c4, _⟩, c5, _⟩ := Q3.out
    subst hW3
    clear hb1 b13 hv1 K1 P1 P2 B0 HS
    go_wp2_with fail
    refine (K2.out).mono ?_
    rintro e w2 ⟨rfl, hb2⟩
    have BH := hide (below_two B1.out hb2)
    have HMat := hide (HM3.out.below hb2)
    have KS : True := trivial
    clear hb2 K2 B1 P3 Q3 HM3 c0 c1 c2 c3 c4 c5 HI
    rcases HF.out with h | ⟨h1, h⟩ | ⟨h1, h2, h⟩ | ⟨h1, h2, h3, h⟩ | ⟨h1, h2, h3, h4, h⟩ | ⟨h1, h2, h3, h4, h5, h⟩ | ⟨A2, B2, ea, eb, g1, g2, g3, g4, g5, g6⟩
    · have KB := hide (fun w => pflat_bad (w := w) wide high k (by unfold flatF; rw [if_neg (fun hh => by have := sidesOk_iff.1 hh.1; omega)]; decide))
      clear HF HMat KS
      go_wp2_with fail
      refine (KB.out _).mono ?_
      rintro e w3 ⟨rfl, hb3⟩
      have B3 := hide ((below_two BH.out hb3).alloc ((below_two BH.out hb3).size) (.cells #[.int .i64 0, .int .i64 0, .slice none 0 0] 24))
      clear hb3 KB
      go_wp2
      go_ret
      exact ⟨ret_bool (by first | rfl | simp <;> omega), B3.out⟩
    · have KB := hide (fun w => pflat_bad (w := w) wide high k (by unfold flatF; rw [if_neg (fun hh => by have := sidesOk_iff.1 hh.1; omega)]; decide))
      clear HF HMat KS
      go_wp2_with fail
      refine (KB.out _).mono ?_
      rintro e w3 ⟨rfl, hb3⟩
      have B3 := hide ((below_two BH.out hb3).alloc ((below_two BH.out hb3).size) (.cells #[.int .i64 0, .int .i64 0, .slice none 0 0] 24))
      clear hb3 KB
      go_wp2
      go_ret
      exact ⟨ret_bool (by first | rfl | simp <;> omega), B3.out⟩
    · have KB := hide (fun w => pflat_bad (w := w) wide high k (by unfold flatF; rw [if_neg (fun hh => by have := sidesOk_iff.1 hh.1; omega)]; decide))
      clear HF HMat KS
      go_wp2_with fail
      refine (KB.out _).mono ?_
      rintro e w3 ⟨rfl, hb3⟩
      have B3 := hide ((below_two BH.out hb3).alloc ((below_two BH.out hb3).size) (.cells #[.int .i64 0, .int .i64 0, .slice none 0 0] 24))
      clear hb3 KB
      go_wp2
      go_ret
      exact ⟨ret_bool (by first | rfl | simp <;> omega), B3.out⟩
    · have KB := hide (fun w => pflat_bad (w := w) wide high k (by unfold flatF; rw [if_neg (fun hh => by have := sidesOk_iff.1 hh.1; omega)]; decide))
      clear HF HMat KS
      go_wp2_with fail
      refine (KB.out _).mono ?_
      rintro e w3 ⟨rfl, hb3⟩
      have B3 := hide ((below_two BH.out hb3).alloc ((below_two BH.out hb3).size) (.cells #[.int .i64 0, .int .i64 0, .slice none 0 0] 24))
      clear hb3 KB
      go_wp2
      go_ret
      exact ⟨ret_bool (by first | rfl | simp <;> omega), B3.out⟩
    · have KB := hide (fun w => pflat_bad (w := w) wide high k (by unfold flatF; rw [if_neg (fun hh => by have := sidesOk_iff.1 hh.1; omega)]; decide))
      clear HF HMat KS
      go_wp2_with fail
      refine (KB.out _).mono ?_
      rintro e w3 ⟨rfl, hb3⟩
      have B3 := hide ((below_two BH.out hb3).alloc ((below_two BH.out hb3).size) (.cells #[.int .i64 0, .int .i64 0, .slice none 0 0] 24))
      clear hb3 KB
      go_wp2
      go_ret
      exact ⟨ret_bool (by first | rfl | simp <;> omega), B3.out⟩
    · have KB := hide (fun w => pflat_bad (w := w) wide high k (by unfold flatF; rw [if_neg (fun hh => by have := sidesOk_iff.1 hh.1; omega)]; decide))
      clear HF HMat KS
      go_wp2_with fail
      refine (KB.out _).mono ?_
      rintro e w3 ⟨rfl, hb3⟩
      have B3 := hide ((below_two BH.out hb3).alloc ((below_two BH.out hb3).size) (.cells #[.int .i64 0, .int .i64 0, .slice none 0 0] 24))
      clear hb3 KB
      go_wp2
      go_ret
      exact ⟨ret_bool (by first | rfl | simp <;> omega), B3.out⟩
    · subst ea
      subst eb
      obtain ⟨m, hm⟩ : ∃ m, m = A2 * B2 := ⟨_, rfl⟩
      have o : PicOk (A2 : Int) (B2 : Int) m (fun _ => k) A2 B2 := ⟨rfl, rfl, g1, g2, g3, g4, hm, fun _ _ => ⟨g5, g6⟩⟩
      have hmi : (A2 : Int) * (B2 : Int) = (m : Int) := by rw [hm, Int.natCast_mul]
      have hm2 := o.le
      have hm0 := o.pos
      have KB := hide (fun w => pflat_ok (w := w) A2 B2 k ⟨g1, g2⟩ ⟨g3, g4⟩ ⟨g5, g6⟩)
      rw [← hm] at KB
      have O := hide o
      clear o hm HF
      go_wp2_with fail
      refine (KB.out _).mono ?_
      rintro e w3 ⟨v3, rfl, hv3, hb3⟩
      obtain ⟨ad3, cap3, rfl⟩ := slice_of hv3
      obtain ⟨W4, hW4⟩ : ∃ W4, W4 = w3.alloc (.cells #[.int .i64 A2, .int .i64 B2, .slice ad3 m cap3] 24) := ⟨_, rfl⟩
      have b34 : Below w3.heap.size w3 W4 := hW4 ▸ (Below.refl _ _).alloc (Nat.le_refl _) _
      have B4 := hide (below_two (below_two BH.out hb3) b34)
      have P4 : Hid (PicIn W4 w3.heap.size A2 B2 (.slice ad3 m cap3)) := hide (hW4 ▸ picIn_new w3 _ _ _)
      have V4 := hide (hv3.below b34)
      have M4 := hide ((HMat.out.below hb3).below b34)
      obtain ⟨mm0, mm1⟩ := M4.out
      obtain ⟨⟨c0, _⟩, ⟨c1, _⟩, c2, _⟩ := P4.out
      clear hb3 b34 hv3 KB HMat
      by_cases hf : farF mx my = 0
      · have K4 := hide (pshift_ok mx my V4.out O.out hf)
        subst hW4
        clear hf
        go_wp2_with fail
        refine (K4.out).mono ?_
        rintro e w5 ⟨v5, rfl, hv5, hb5⟩
        obtain ⟨ad5, cap5, rfl⟩ := slice_of hv5
        obtain ⟨W6, hW6⟩ : ∃ W6, W6 = w5.alloc (.cells #[.int .i64 A2, .int .i64 B2, .slice ad5 m cap5] 24) := ⟨_, rfl⟩
        have b56 : Below w5.heap.size w5 W6 := hW6 ▸ (Below.refl _ _).alloc (Nat.le_refl _) _
        have B6 := hide (below_two (below_two B4.out hb5) b56)
        have P6 : Hid (PicIn W6 w5.heap.size A2 B2 (.slice ad5 m cap5)) := hide (hW6 ▸ picIn_new w5 _ _ _)
        have Q6 := hide ((P4.out.below hb5).below b56)
        have K6 := hide (pics_same A2 B2 (by omega) (hv5.below b56) ((V4.out.below hb5).below b56) (fun i _ => rfl))
        obtain ⟨⟨d0, _⟩, ⟨d1, _⟩, d2, _⟩ := P6.out
        obtain ⟨⟨d3, _⟩, ⟨d4, _⟩, d5, _⟩ := Q6.out
        subst hW6
        clear hb5 b56 hv5 K4
        go_wp2_with fail
        refine (K6.out).mono ?_
        rintro e w7 ⟨rfl, hb7⟩
        have B7 := hide (below_two B6.out hb7)
        clear hb7
        go_wp2
        go_ret
        exact ⟨ret_bool (by first | rfl | simp), B7.out⟩
      · have hsx : shiftF (A2 : Int) (B2 : Int) m (fun _ => k) mx my = 1 := by
          unfold shiftF
          rw [if_neg (by rw [picF_zero.2 ⟨A2, B2, O.out⟩]; decide)]
          unfold farF at hf ⊢
          split
          · rfl
          · rename_i c; rw [if_neg c] at hf; exact absurd rfl hf
        have K4 := hide (pshift_bad (A2 : Int) (B2 : Int) mx my V4.out (by rw [hsx]; decide))
        rw [hsx, errN_one] at K4
        subst hW4
        clear hf hsx
        go_wp2_with fail
        refine (K4.out).mono ?_
        rintro e w5 ⟨rfl, hb5⟩
        have b56 : Below w5.heap.size w5 (w5.alloc (.cells #[.int .i64 0, .int .i64 0, .slice none 0 0] 24)) := (Below.refl _ _).alloc (Nat.le_refl _) _
        have B6 := hide (below_two (below_two B4.out hb5) b56)
        obtain ⟨⟨d3, _⟩, ⟨d4, _⟩, d5, _⟩ := (P4.out.below hb5).below b56
        clear hb5 b56 K4
        go_wp2
        go_ret
        exact ⟨ret_bool (by first | rfl | simp), B6.out⟩
  · have hsx : shiftF a b n f 0 0 = picF a b n f := by unfold shiftF; rw [if_pos hp]
    have K1 := hide (pshift_bad a b 0 0 HS.out (by rw [hsx]; exact hp))
    rw [hsx, errN_pos hp] at K1
    clear hsx hp
    generalize picF a b n f = fl at *
    subst hW2
    subst hW1
    go_enter Try.func4, Try.ntmps4
    go_wp2_with fail
    refine (K1.out).mono ?_
    rintro e w1 ⟨rfl, hb1⟩
    obtain ⟨W3, hW3⟩ : ∃ W3, W3 = w1.alloc (.cells #[.int .i64 0, .int .i64 0, .slice none 0 0] 24) := ⟨_, rfl⟩
    have b13 : Below w1.heap.size w1 W3 := hW3 ▸ (Below.refl _ _).alloc (Nat.le_refl _) _
    have BH := hide (below_two (below_two B0.out hb1) b13)
    have HMat := hide ((P2.out.below hb1).below b13)
    have KS : True := trivial
    subst hW3
    clear hb1 b13 K1 P1 P2 B0 HS
    rcases HF.out with h | ⟨h1, h⟩ | ⟨h1, h2, h⟩ | ⟨h1, h2, h3, h⟩ | ⟨h1, h2, h3, h4, h⟩ | ⟨h1, h2, h3, h4, h5, h⟩ | ⟨A2, B2, ea, eb, g1, g2, g3, g4, g5, g6⟩
    · have KB := hide (fun w => pflat_bad (w := w) wide high k (by unfold flatF; rw [if_neg (fun hh => by have := sidesOk_iff.1 hh.1; omega)]; decide))
      clear HF HMat KS
      go_wp2_with fail
      refine (KB.out _).mono ?_
      rintro e w3 ⟨rfl, hb3⟩
      have B3 := hide ((below_two BH.out hb3).alloc ((below_two BH.out hb3).size) (.cells #[.int .i64 0, .int .i64 0, .slice none 0 0] 24))
      clear hb3 KB
      go_wp2
      go_ret
      exact ⟨ret_bool (by first | rfl | simp <;> omega), B3.out⟩
    · have KB := hide (fun w => pflat_bad (w := w) wide high k (by unfold flatF; rw [if_neg (fun hh => by have := sidesOk_iff.1 hh.1; omega)]; decide))
      clear HF HMat KS
      go_wp2_with fail
      refine (KB.out _).mono ?_
      rintro e w3 ⟨rfl, hb3⟩
      have B3 := hide ((below_two BH.out hb3).alloc ((below_two BH.out hb3).size) (.cells #[.int .i64 0, .int .i64 0, .slice none 0 0] 24))
      clear hb3 KB
      go_wp2
      go_ret
      exact ⟨ret_bool (by first | rfl | simp <;> omega), B3.out⟩
    · have KB := hide (fun w => pflat_bad (w := w) wide high k (by unfold flatF; rw [if_neg (fun hh => by have := sidesOk_iff.1 hh.1; omega)]; decide))
      clear HF HMat KS
      go_wp2_with fail
      refine (KB.out _).mono ?_
      rintro e w3 ⟨rfl, hb3⟩
      have B3 := hide ((below_two BH.out hb3).alloc ((below_two BH.out hb3).size) (.cells #[.int .i64 0, .int .i64 0, .slice none 0 0] 24))
      clear hb3 KB
      go_wp2
      go_ret
      exact ⟨ret_bool (by first | rfl | simp <;> omega), B3.out⟩
    · have KB := hide (fun w => pflat_bad (w := w) wide high k (by unfold flatF; rw [if_neg (fun hh => by have := sidesOk_iff.1 hh.1; omega)]; decide))
      clear HF HMat KS
      go_wp2_with fail
      refine (KB.out _).mono ?_
      rintro e w3 ⟨rfl, hb3⟩
      have B3 := hide ((below_two BH.out hb3).alloc ((below_two BH.out hb3).size) (.cells #[.int .i64 0, .int .i64 0, .slice none 0 0] 24))
      clear hb3 KB
      go_wp2
      go_ret
      exact ⟨ret_bool (by first | rfl | simp <;> omega), B3.out⟩
    · have KB := hide (fun w => pflat_bad (w := w) wide high k (by unfold flatF; rw [if_neg (fun hh => by have := sidesOk_iff.1 hh.1; omega)]; decide))
      clear HF HMat KS
      go_wp2_with fail
      refine (KB.out _).mono ?_
      rintro e w3 ⟨rfl, hb3⟩
      have B3 := hide ((below_two BH.out hb3).alloc ((below_two BH.out hb3).size) (.cells #[.int .i64 0, .int .i64 0, .slice none 0 0] 24))
      clear hb3 KB
      go_wp2
      go_ret
      exact ⟨ret_bool (by first | rfl | simp <;> omega), B3.out⟩
    · have KB := hide (fun w => pflat_bad (w := w) wide high k (by unfold flatF; rw [if_neg (fun hh => by have := sidesOk_iff.1 hh.1; omega)]; decide))
      clear HF HMat KS
      go_wp2_with fail
      refine (KB.out _).mono ?_
      rintro e w3 ⟨rfl, hb3⟩
      have B3 := hide ((below_two BH.out hb3).alloc ((below_two BH.out hb3).size) (.cells #[.int .i64 0, .int .i64 0, .slice none 0 0] 24))
      clear hb3 KB
      go_wp2
      go_ret
      exact ⟨ret_bool (by first | rfl | simp <;> omega), B3.out⟩
    · subst ea
      subst eb
      obtain ⟨m, hm⟩ : ∃ m, m = A2 * B2 := ⟨_, rfl⟩
      have o : PicOk (A2 : Int) (B2 : Int) m (fun _ => k) A2 B2 := ⟨rfl, rfl, g1, g2, g3, g4, hm, fun _ _ => ⟨g5, g6⟩⟩
      have hmi : (A2 : Int) * (B2 : Int) = (m : Int) := by rw [hm, Int.natCast_mul]
      have hm2 := o.le
      have hm0 := o.pos
      have KB := hide (fun w => pflat_ok (w := w) A2 B2 k ⟨g1, g2⟩ ⟨g3, g4⟩ ⟨g5, g6⟩)
      rw [← hm] at KB
      have O := hide o
      clear o hm HF
      go_wp2_with fail
      refine (KB.out _).mono ?_
      rintro e w3 ⟨v3, rfl, hv3, hb3⟩
      obtain ⟨ad3, cap3, rfl⟩ := slice_of hv3
      obtain ⟨W4, hW4⟩ : ∃ W4, W4 = w3.alloc (.cells #[.int .i64 A2, .int .i64 B2, .slice ad3 m cap3] 24) := ⟨_, rfl⟩
      have b34 : Below w3.heap.size w3 W4 := hW4 ▸ (Below.refl _ _).alloc (Nat.le_refl _) _
      have B4 := hide (below_two (below_two BH.out hb3) b34)
      have P4 : Hid (PicIn W4 w3.heap.size A2 B2 (.slice ad3 m cap3)) := hide (hW4 ▸ picIn_new w3 _ _ _)
      have V4 := hide (hv3.below b34)
      have M4 := hide ((HMat.out.below hb3).below b34)
      obtain ⟨mm0, mm1⟩ := M4.out
      obtain ⟨⟨c0, _⟩, ⟨c1, _⟩, c2, _⟩ := P4.out
      clear hb3 b34 hv3 KB HMat
      by_cases hf : farF mx my = 0
      · have K4 := hide (pshift_ok mx my V4.out O.out hf)
        subst hW4
        clear hf
        go_wp2_with fail
        refine (K4.out).mono ?_
        rintro e w5 ⟨v5, rfl, hv5, hb5⟩
        obtain ⟨ad5, cap5, rfl⟩ := slice_of hv5
        obtain ⟨W6, hW6⟩ : ∃ W6, W6 = w5.alloc (.cells #[.int .i64 A2, .int .i64 B2, .slice ad5 m cap5] 24) := ⟨_, rfl⟩
        have b56 : Below w5.heap.size w5 W6 := hW6 ▸ (Below.refl _ _).alloc (Nat.le_refl _) _
        have B6 := hide (below_two (below_two B4.out hb5) b56)
        have P6 : Hid (PicIn W6 w5.heap.size A2 B2 (.slice ad5 m cap5)) := hide (hW6 ▸ picIn_new w5 _ _ _)
        have Q6 := hide ((P4.out.below hb5).below b56)
        have K6 := hide (pics_same A2 B2 (by omega) (hv5.below b56) ((V4.out.below hb5).below b56) (fun i _ => rfl))
        obtain ⟨⟨d0, _⟩, ⟨d1, _⟩, d2, _⟩ := P6.out
        obtain ⟨⟨d3, _⟩, ⟨d4, _⟩, d5, _⟩ := Q6.out
        subst hW6
        clear hb5 b56 hv5 K4
        go_wp2_with fail
        refine (K6.out).mono ?_
        rintro e w7 ⟨rfl, hb7⟩
        have B7 := hide (below_two B6.out hb7)
        clear hb7
        go_wp2
        go_ret
        exact ⟨ret_bool (by first | rfl | simp), B7.out⟩
      · have hsx : shiftF (A2 : Int) (B2 : Int) m (fun _ => k) mx my = 1 := by
          unfold shiftF
          rw [if_neg (by rw [picF_zero.2 ⟨A2, B2, O.out⟩]; decide)]
          unfold farF at hf ⊢
          split
          · rfl
          · rename_i c; rw [if_neg c] at hf; exact absurd rfl hf
        have K4 := hide (pshift_bad (A2 : Int) (B2 : Int) mx my V4.out (by rw [hsx]; decide))
        rw [hsx, errN_one] at K4
        subst hW4
        clear hf hsx
        go_wp2_with fail
        refine (K4.out).mono ?_
        rintro e w5 ⟨rfl, hb5⟩
        have b56 : Below w5.heap.size w5 (w5.alloc (.cells #[.int .i64 0, .int .i64 0, .slice none 0 0] 24)) := (Below.refl _ _).alloc (Nat.le_refl _) _
        have B6 := hide (below_two (below_two B4.out hb5) b56)
        obtain ⟨⟨d3, _⟩, ⟨d4, _⟩, d5, _⟩ := (P4.out.below hb5).below b56
        clear hb5 b56 K4
        go_wp2
        go_ret
        exact ⟨ret_bool (by first | rfl | simp), B6.out⟩

end Go.Proofs.Ytikkpppkjfploaa
