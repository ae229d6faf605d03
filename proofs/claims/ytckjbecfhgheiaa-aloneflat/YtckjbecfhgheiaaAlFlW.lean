/-
  AloneFlat: what is flat and of the first guess has no rest, and is told as it was: for every input. Our own walk of the law.
-/
import Derived.Test.YtckjbecfhgheiaaAlC
import Derived.Test.YtckjbecfhgheiaaPicF
import Derived.Test.YtckjbecfhgheiaaPicQ
import Derived.Test.YtckjbecfhgheiaaTop
namespace Go.Proofs.Ytckjbecfhgheiaa
open Go.ChangeShapes Go.WideShapes Go.ChangeAt Go.RowKit Go.Maps
set_option linter.unusedVariables false
set_option maxRecDepth 100000

set_option maxHeartbeats 4000000 in
theorem aflat_walk (wide high st : Int) (w : World) :
    Calls Try.prog 4 #[.int .i64 wide, .int .i64 high, .int .i64 st] w fun e w' => e = .returned (.bool true) ∧ Below w.heap.size w w' := by
  by_cases hF : flatF wide high 128 = 0
  · have hF' : sidesOk wide high = true := by
      unfold flatF at hF
      split at hF
      · rename_i h; exact h.1
      · cases hF
    have h6 := sidesOk_iff.1 hF'
    obtain ⟨A, ea⟩ := Int.eq_ofNat_of_zero_le (show 0 ≤ wide by omega)
    obtain ⟨B, eb⟩ := Int.eq_ofNat_of_zero_le (show 0 ≤ high by omega)
    subst ea
    subst eb
    obtain ⟨m, hm⟩ : ∃ m, m = A * B := ⟨_, rfl⟩
    have o : PicOk (A : Int) (B : Int) m (fun _ => 128) A B := ⟨rfl, rfl, by omega, by omega, by omega, by omega, hm, fun _ _ => ⟨by decide, by decide⟩⟩
    have hmi : (A : Int) * (B : Int) = (m : Int) := by rw [hm, Int.natCast_mul]
    have hm2 := o.le
    have hm0 := o.pos
    have KB := hide (pflat_ok (w := w) A B 128 ⟨by omega, by omega⟩ ⟨by omega, by omega⟩ ⟨by decide, by decide⟩)
    rw [← hm] at KB
    have O := hide o
    clear o hm hF hF'
    go_enter Try.func4, Try.ntmps4
    go_wp2_with fail
    refine (KB.out).mono ?_
    rintro e w3 ⟨v3, rfl, hv3, hb3⟩
    obtain ⟨ad3, cap3, rfl⟩ := slice_shape hv3
    obtain ⟨W4, hW4⟩ : ∃ W4, W4 = w3.alloc (.cells #[.int .i64 A, .int .i64 B, .slice ad3 m cap3] 24) := ⟨_, rfl⟩
    have b34 : Below w3.heap.size w3 W4 := hW4 ▸ (Below.refl _ _).alloc (Nat.le_refl _) _
    have B4 := hide (below_two hb3 b34)
    have P4 : Hid (PicIn W4 w3.heap.size A B (.slice ad3 m cap3)) := hide (hW4 ▸ picIn_new w3 _ _ _)
    have V4 := hide (hv3.below b34)
    obtain ⟨⟨c0, _⟩, ⟨c1, _⟩, c2, _⟩ := P4.out
    clear hb3 b34 hv3 KB
    by_cases hs : 1 ≤ st ∧ st ≤ 64
    · obtain ⟨s1, s2⟩ := hs
      have K1 := hide (aenc_ok V4.out O.out s1 s2)
      have HR : Hid (∀ i, restF A st (byPix st fun _ => 128) i = 0) := fun i => flat_rest O.out.w1 s1 i
      have HT : Hid (∀ i, tellF A st (fun i _ => restF A st (byPix st fun _ => 128) i) i = 128) := fun i => by rw [tellF_rest O.out.w1]; exact (flat_tell O.out.w1 s1 i).1
      have K2 := hide (fun (w : World) (v : Value) (hv : IntsIn w v m (restF A st (byPix st fun _ => 128))) => adec_ok hv (enc_dec O.out s1 s2))
      generalize restF A st (byPix st fun _ => 128) = R at *
      generalize tellF A st (fun i _ => R i) = T at *
      subst hW4
      go_wp2_with fail
      refine (K1.out).mono ?_
      rintro e w5 ⟨u, rfl, hu, hb5, _⟩
      have K2' := hide (K2.out w5 u hu)
      have U5 := hide hu
      have P5 := hide (P4.out.below hb5)
      have V5 := hide (V4.out.below hb5)
      have B5 := hide (below_two B4.out hb5)
      obtain ⟨ub, uo, cu, rfl, hcu⟩ : ∃ bb oo cap, u = .slice (some ⟨bb, oo, none⟩) m cap ∧ ∀ i, i < m → w5.cell? ⟨bb, oo + i, none⟩ = some (.int .i64 0) := by
        rcases hu with ⟨h, _⟩ | ⟨_, b', o', c', e, hc⟩
        · omega
        · exact ⟨_, _, _, e, fun i hi => by rw [hc i hi, HR.out]⟩
      have HCU := hide hcu
      clear hu hb5 hcu K1 K2 P4 V4 B4 c0 c1 c2 U5
      go_wp2
      go_loop [10] (fun i => ∃ j : Nat, j ≤ m ∧ i = .int .i64 j) (fun i => m - (intOf i).toNat)
      case atStart => exact ⟨0, Nat.zero_le _, rfl⟩
      case round =>
        obtain ⟨j, hj, rfl⟩ := hrel
        by_cases hlt : j < m
        · have hcj := HCU.out j hlt
          go_wp2
          go_round
          case rel => exact ⟨j + 1, by omega, by go_num⟩
          case measure => simp [intOf]; omega
        · obtain rfl : j = m := by omega
          go_wp2_with fail
          refine (K2'.out).mono ?_
          rintro e w6 ⟨x, rfl, hx, hb6, _⟩
          obtain ⟨adx, capx, rfl⟩ := slice_shape hx
          obtain ⟨W7, hW7⟩ : ∃ W7, W7 = w6.alloc (.cells #[.int .i64 A, .int .i64 B, .slice adx j capx] 24) := ⟨_, rfl⟩
          have b67 : Below w6.heap.size w6 W7 := hW7 ▸ (Below.refl _ _).alloc (Nat.le_refl _) _
          have B7 := hide (below_two (below_two B5.out hb6) b67)
          have Q7 : Hid (PicIn W7 w6.heap.size A B (.slice adx j capx)) := hide (hW7 ▸ picIn_new w6 _ _ _)
          have P7 := hide ((P5.out.below hb6).below b67)
          have K3 := hide (pics_alike (A : Int) B (by omega) (hx.below b67) ((V5.out.below hb6).below b67) (fun i _ => HT.out i))
          obtain ⟨⟨c0, _⟩, ⟨c1, _⟩, c2, _⟩ := P7.out
          obtain ⟨⟨d0, _⟩, ⟨d1, _⟩, d2, _⟩ := Q7.out
          have hjj : ((j : Int) == (A : Int) * (B : Int)) = true := by rw [beq_iff_eq]; omega
          subst hW7
          clear hx hb6 b67 K2' P5 V5 B5
          go_wp2_with fail
          refine (K3.out).mono ?_
          rintro e w8 ⟨rfl, hb8⟩
          have B8 := hide (below_two B7.out hb8)
          clear hb8
          go_wp2
          go_ret
          exact ⟨ret_bool (by first | rfl | simp), B8.out⟩
    · have hx : encF (A : Int) (B : Int) m (fun _ => 128) st = 1 := by
        unfold encF
        rw [if_neg (by rw [picF_zero.2 ⟨A, B, O.out⟩]; decide), if_neg (fun h => hs (stepOk_iff.1 h))]
      have K1 := hide (aenc_bad (A : Int) (B : Int) st V4.out (by rw [hx]; decide))
      rw [hx, errN_one] at K1
      have hs' : st < 1 ∨ (1 ≤ st ∧ 64 < st) := by omega
      subst hW4
      clear hx hs
      rcases hs' with h | ⟨h1, h⟩
      · go_wp2_with fail
        refine (K1.out).mono ?_
        rintro e w5 ⟨rfl, hb5⟩
        have B5 := hide (below_two B4.out hb5)
        clear hb5
        go_wp2
        go_ret
        exact ⟨ret_bool (by first | rfl | (simp; done) | (simp; omega)), B5.out⟩
      · go_wp2_with fail
        refine (K1.out).mono ?_
        rintro e w5 ⟨rfl, hb5⟩
        have B5 := hide (below_two B4.out hb5)
        clear hb5
        go_wp2
        go_ret
        exact ⟨ret_bool (by first | rfl | (simp; done) | (simp; omega)), B5.out⟩
  · have KB := hide (pflat_bad (w := w) wide high 128 hF)
    clear hF
    go_enter Try.func4, Try.ntmps4
    go_wp2_with fail
    refine (KB.out).mono ?_
    rintro e w3 ⟨rfl, hb3⟩
    have B3 := hide (hb3.alloc hb3.size (.cells #[.int .i64 0, .int .i64 0, .slice none 0 0] 24))
    clear hb3 KB
    go_wp2
    go_ret
    exact ⟨rfl, B3.out⟩
end Go.Proofs.Ytckjbecfhgheiaa
