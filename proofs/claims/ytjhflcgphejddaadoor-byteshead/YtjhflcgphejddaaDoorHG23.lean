/-
  Lemmas for the law above, joined into one text (RRbK, RAlW, RAlS, RAlT). No statement is proved here.
-/
import Derived.Test.YtjhflcgphejddaaDoorHG19
import Derived.Test.YtjhflcgphejddaaDoorHG22
import Derived.Test.YtjhflcgphejddaaDoorHG7
import Derived.Test.YtjhflcgphejddaaDoorHG1
import Derived.Test.YtjhflcgphejddaaDoorHG6
import Derived.Test.YtjhflcgphejddaaDoorHG4
import Derived.Test.YtjhflcgphejddaaDoorHG12
import Derived.Laws.MakeOwn
import Derived.Maps.AppendAt
namespace Go.Proofs.YtjhflcgphejddaaDoor
open Go.RowKit
set_option linter.unusedVariables false
set_option maxRecDepth 100000

theorem RdAt.other {w : World} {b b2 o : Nat} {s : Value} {a : Nat} {bad : Bool} (h : RdAt w b s a bad) (hne : b ≠ b2) (u : Value) : RdAt (w.setCell ⟨b2, o, none⟩ u) b s a bad := by
  refine ⟨?_, ?_, ?_, by rw [World.frozen?_setCell]; exact h.f1, by rw [World.frozen?_setCell]; exact h.f2⟩
  · rw [World.cell?_setCell_other _ _ _ _ (fun e => hne (congrArg Addr.block e).symm)]; exact h.c0
  · rw [World.cell?_setCell_other _ _ _ _ (fun e => hne (congrArg Addr.block e).symm)]; exact h.c1
  · rw [World.cell?_setCell_other _ _ _ _ (fun e => hne (congrArg Addr.block e).symm)]; exact h.c2
theorem RdAt.below_ {w w' : World} {b : Nat} {s : Value} {a : Nat} {bad : Bool} (h : RdAt w b s a bad) (hb : Below w.heap.size w w') : RdAt w' b s a bad := h.below h.lt hb

/-- What was read so far: bad, then no film is told; else these. -/
def RSt (t : ByteArray) (m K N i a : Nat) (bd : Bool) (D : Nat → Cd) : Prop :=
  (bd = false → ∃ l, flP (bitB t) m K i = some (l, a) ∧ ∀ q, q < i → l[q]? = some (D q)) ∧ (bd = true → flP (bitB t) m K N = none)
/-- What is ahead of a picture's rests. -/
def HSt (t : ByteArray) (m a : Nat) (bd al : Bool) (x y : Int) (a1 : Nat) (bd1 : Bool) : Prop :=
  (bd1 = false → bd = false ∧ hdP (bitB t) m a = some (al, x, y, a1)) ∧ (bd1 = true → bd = true ∨ hdP (bitB t) m a = none)
/-- Its rests so far. -/
def NSt (t : ByteArray) (m K a1 : Nat) (bd1 : Bool) (j : Nat) (xs : List Int) (a : Nat) (bd : Bool) : Prop :=
  (bd = false → bd1 = false ∧ rsP (bitB t) m a1 j = some (xs, a)) ∧ (bd = true → bd1 = true ∨ rsP (bitB t) m a1 K = none)
theorem NSt.start (t : ByteArray) (m K a1 : Nat) (bd1 : Bool) : NSt t m K a1 bd1 0 [] a1 bd1 := ⟨fun h => ⟨h, rfl⟩, fun h => Or.inl h⟩
theorem NSt.step {t : ByteArray} {m K a1 : Nat} {bd1 : Bool} {j : Nat} {xs : List Int} {a : Nat} {bd : Bool} (h : NSt t m K a1 bd1 j xs a bd) (hj : j < K) {z : Int} {a' : Nat} {bd' : Bool} (h1 : bd = true → bd' = true) (h2 : bd = false → (fstN (bitB t) m 2 a = none ∧ bd' = true) ∨ (fstN (bitB t) m 2 a = some (z, a') ∧ bd' = false)) : NSt t m K a1 bd1 (j + 1) (xs ++ [z]) a' bd' := by
  cases hb : bd with
  | true =>
    have hb' := h1 hb
    exact ⟨(fun q => by rw [hb'] at q; cases q), fun _ => h.2 hb⟩
  | false =>
    obtain ⟨e1, e2⟩ := h.1 hb
    rcases h2 hb with ⟨q1, q2⟩ | ⟨q1, q2⟩
    · exact ⟨(fun q => by rw [q2] at q; cases q), fun _ => Or.inr (rsP_past (rsP_none e2 q1) (by omega))⟩
    · exact ⟨fun _ => ⟨e1, rsP_some e2 q1⟩, (fun q => by rw [q2] at q; cases q)⟩
theorem RSt.start (t : ByteArray) (m K N : Nat) (D : Nat → Cd) : RSt t m K N 0 0 false D := ⟨fun _ => ⟨[], rfl, fun q hq => absurd hq (Nat.not_lt_zero _)⟩, fun h => by cases h⟩
theorem RSt.step {t : ByteArray} {m K N i a : Nat} {bd : Bool} {D : Nat → Cd} (h : RSt t m K N i a bd D) (hi : i < N) {al bd1 bd2 : Bool} {x y : Int} {a1 a2 : Nat} {xs : List Int} (h1 : HSt t m a bd al x y a1 bd1) (h2 : NSt t m K a1 bd1 K xs a2 bd2) :
    RSt t m K N (i + 1) a2 bd2 (fun q => if q = i then ⟨al, x, y, K, fun r => xs.getD r 0⟩ else D q) := by
  refine ⟨fun hb => ?_, fun hb => ?_⟩
  · obtain ⟨e1, e2⟩ := h2.1 hb
    obtain ⟨e3, e4⟩ := h1.1 e1
    obtain ⟨l, e5, e6⟩ := h.1 e3
    have hl := flP_len e5
    refine ⟨l ++ [⟨al, x, y, K, fun r => xs.getD r 0⟩], flP_some e5 (cdP_some e4 e2), fun q hq => ?_⟩
    by_cases c : q = i
    · subst c
      rw [List.getElem?_append_right (by omega)]
      simp [hl]
    · rw [List.getElem?_append_left (by omega)]
      show l[q]? = some (if q = i then _ else D q)
      rw [if_neg c]
      exact e6 q (by omega)
  · cases hbd : bd with
    | true => exact h.2 hbd
    | false =>
      obtain ⟨l, e5, _⟩ := h.1 hbd
      have hnone : cdP (bitB t) m K a = none := by
        rcases h2.2 hb with q | q
        · rcases h1.2 q with r | r
          · rw [hbd] at r; cases r
          · exact cdP_none1 r
        · cases hb1 : bd1 with
          | true =>
            rcases h1.2 hb1 with r | r
            · rw [hbd] at r; cases r
            · exact cdP_none1 r
          | false => exact cdP_none2 (h1.1 hb1).2 q
      exact flP_past (flP_none e5 hnone) (by omega)
theorem HSt.alone {t : ByteArray} {m a : Nat} {bd : Bool} (h : a < m) (h1 : bitB t a = 1) : HSt t m a bd true 0 0 (a + 1) bd := by
  refine ⟨fun hb => ⟨hb, ?_⟩, fun hb => Or.inl hb⟩
  unfold hdP
  rw [if_pos h, if_pos h1]
theorem HSt.moved {t : ByteArray} {m a a1 a2 a3 : Nat} {bd bd1 bd2 bd3 : Bool} {z1 z2 : Int} (h0 : (a < m ∧ bitB t a = 0 ∧ a1 = a + 1 ∧ bd1 = bd) ∨ (a = m ∧ a1 = m ∧ bd1 = true))
    (h1 : bd2 = false ↔ bd1 = false ∧ a1 + 2 ≤ m) (h2 : a1 + 2 ≤ m → a2 = a1 + 2 ∧ z1 = 2 * bitB t a1 + bitB t (a1 + 1)) (h3 : bd3 = false ↔ bd2 = false ∧ a2 + 2 ≤ m) (h4 : a2 + 2 ≤ m → a3 = a2 + 2 ∧ z2 = 2 * bitB t a2 + bitB t (a2 + 1)) : HSt t m a bd false (z1 - 1) (z2 - 1) a3 bd3 := by
  refine ⟨fun hb => ?_, fun hb => ?_⟩
  · obtain ⟨e1, e2⟩ := h3.1 hb
    obtain ⟨e3, e4⟩ := h1.1 e1
    rcases h0 with ⟨q1, q2, rfl, q4⟩ | ⟨_, _, q⟩
    · obtain ⟨r1, r2⟩ := h2 e4
      obtain ⟨r3, r4⟩ := h4 e2
      subst r1
      refine ⟨q4.symm.trans e3, ?_⟩
      unfold hdP
      rw [if_pos q1, if_neg (by omega), if_pos (by omega), r2, r4, r3]
    · rw [e3] at q; cases q
  · cases hbd : bd with
    | true => exact Or.inl rfl
    | false =>
      right
      rcases h0 with ⟨q1, q2, rfl, q4⟩ | ⟨q1, _, _⟩
      · unfold hdP
        rw [if_pos q1, if_neg (by omega), if_neg]
        intro h5
        have hb1 : bd1 = false := q4.trans hbd
        have hb2 := h1.2 ⟨hb1, by omega⟩
        have := (h2 (by omega)).1
        have hb3 := h3.2 ⟨hb2, by omega⟩
        rw [hb] at hb3; cases hb3
      · unfold hdP
        rw [if_neg (by omega)]
end Go.Proofs.YtjhflcgphejddaaDoor

namespace Go.Proofs.YtjhflcgphejddaaDoor
open Go.RowKit
set_option linter.unusedVariables false
set_option maxRecDepth 100000

theorem rclamp_ok (x : Int) (w : World) :
    Calls Tryd.prog 54 #[.int .i64 x, .int .i64 255] w fun e w' => e = .returned (.int .i64 (clamp x)) ∧ w = w' := by
  unfold clamp
  by_cases h : x < 0
  · rw [show min (max x 0) 255 = 0 by omega]
    go_enter Tryd.func54, Tryd.ntmps54
    go_wp2
    go_ret
    exact ⟨rfl, rfl⟩
  · by_cases h2 : 255 < x
    · rw [show min (max x 0) 255 = 255 by omega]
      go_enter Tryd.func54, Tryd.ntmps54
      go_wp2
      go_ret
      exact ⟨rfl, rfl⟩
    · rw [show min (max x 0) 255 = x by omega]
      go_enter Tryd.func54, Tryd.ntmps54
      go_wp2
      go_ret
      exact ⟨rfl, rfl⟩

set_option maxHeartbeats 1000000 in
theorem rrests_ok {w : World} {v : Value} {n : Nat} {f : Nat → Int} (m : Int) (h : IntsIn w v n f) (hn : n ≤ 1000 ∨ (n : Int) ≠ m) :
    Calls Tryd.prog 52 #[v, .int .i64 m] w fun e w' => e = .returned (.int .i64 (restsF n f m : Nat)) ∧ w = w' := by
  have HD : Hid (restsF n f m = if (n : Int) ≠ m then 3 else if restsOk n f = false then 1 else 0) := rfl
  by_cases hne : (n : Int) = m
  · subst hne
    have hn : n ≤ 1000 := by omega
    rw [if_neg (by simp)] at HD
    rcases h with ⟨rfl, a, cap, rfl⟩ | ⟨h0, b, o, cap, rfl, hc⟩
    · have HE : Hid (restsF 0 f 0 = 0) := by unfold Hid restsF; simp [restsOk]
      clear HD
      go_enter Tryd.func52, Tryd.ntmps52
      go_wp2
      go_loop [5] (fun k => k = .int .i64 0) (fun _ => 0)
      case atStart => rfl
      case round =>
        obtain rfl := hrel
        go_wp2
        go_ret
        exact ⟨ret_int (by rw [HE.out]; rfl), rfl⟩
    · have HC := hide hc
      clear hc
      go_enter Tryd.func52, Tryd.ntmps52
      go_wp2
      go_loop [5] (fun i => ∃ j : Nat, j ≤ n ∧ i = .int .i64 j ∧ ∀ q, q < j → -255 ≤ f q ∧ f q ≤ 255) (fun i => n - (intOf i).toNat)
      case atStart => exact ⟨0, Nat.zero_le _, rfl, fun q hq => absurd hq (Nat.not_lt_zero _)⟩
      case round =>
        obtain ⟨j, hj, rfl, hno⟩ := hrel
        have HN := hide hno
        clear hno
        by_cases hlt : j < n
        · have hcj := HC.out j hlt
          by_cases hx : -255 ≤ f j ∧ f j ≤ 255
          · have HX := hide hx
            obtain ⟨x0, x1⟩ := hx
            generalize hz : f j = z at *
            have HZ := hide hz
            clear hz
            go_wp2
            go_round
            case rel =>
              refine ⟨j + 1, by omega, by go_num, fun q hq => ?_⟩
              by_cases c : q = j
              · rw [c, HZ.out]; exact HX.out
              · exact HN.out q (by omega)
            case measure => simp [intOf]; omega
          · have HE : Hid (restsF n f n = 1) := by
              unfold Hid
              rw [HD.out, if_pos]
              rw [← Bool.not_eq_true, restsOk_iff]
              exact fun h => hx (h j hlt)
            have hx' : f j < -255 ∨ (-255 ≤ f j ∧ 255 < f j) := by omega
            clear hx
            generalize f j = z at *
            rcases hx' with x0 | ⟨x0, x1⟩
            · go_wp2
              go_ret
              exact ⟨ret_int (by rw [HE.out]; rfl), rfl⟩
            · go_wp2
              go_ret
              exact ⟨ret_int (by rw [HE.out]; rfl), rfl⟩
        · obtain rfl : j = n := by omega
          have HE : Hid (restsF j f j = 0) := by
            unfold Hid
            rw [HD.out, if_neg]
            rw [restsOk_iff.2 HN.out]; simp
          go_wp2
          go_ret
          exact ⟨ret_int (by rw [HE.out]; rfl), rfl⟩
  · have hn1 : ((n : Int) == m) = false := by rw [beq_eq_false_iff_ne]; exact hne
    have hn3 : ((n : Int) != m) = true := by simp [bne, hn1]
    have HE : Hid (restsF n f m = 3) := by unfold Hid; rw [HD.out, if_pos hne]
    obtain ⟨ad, cap, rfl⟩ := slice_shape h
    clear hne HD h hn
    go_enter Tryd.func52, Tryd.ntmps52
    go_wp2
    go_ret
    exact ⟨ret_int (by rw [HE.out]; rfl), rfl⟩
end Go.Proofs.YtjhflcgphejddaaDoor

namespace Go.Proofs.YtjhflcgphejddaaDoor
open Go.RowKit
set_option linter.unusedVariables false
set_option maxRecDepth 100000

set_option maxHeartbeats 1000000 in
theorem rguess_ok {w : World} {v : Value} {i : Nat} {T : Nat → Int} {A : Nat} (h : IntsIn w v i T) (hA : 1 ≤ A) (hA6 : A ≤ 6) (hi : i ≤ 1000) :
    Calls Tryd.prog 53 #[v, .int .i64 A] w fun e w' => e = .returned (.int .i64 (gsN A T i)) ∧ w = w' := by
  have HG : Hid (gsN A T i = if i = 0 then 128 else if i % A = 0 then T (i - A) else T (i - 1)) := rfl
  rcases h with ⟨rfl, a, cap, rfl⟩ | ⟨h0, b, o, cap, rfl, hc⟩
  · go_enter Tryd.func53, Tryd.ntmps53
    go_wp2
    go_ret
    exact ⟨rfl, rfl⟩
  · have hA0 : ¬ A = 0 := by omega
    have e2 : (i : Int) % (A : Int) = ((i % A : Nat) : Int) := (Int.natCast_emod i A).symm
    have e4 : (i : Int).tmod (A : Int) = ((i % A : Nat) : Int) := by rw [Int.tmod_eq_emod_of_nonneg (by omega)]; exact e2
    have hz : ((i : Int) == 0) = false := by rw [beq_eq_false_iff_ne]; omega
    by_cases hm : i % A = 0
    · have hle : A ≤ i := Nat.le_of_dvd h0 (Nat.dvd_of_mod_eq_zero hm)
      have hcj := hc (i - A) (by omega)
      have e5 : ((i - A : Nat) : Int) = (i : Int) - (A : Int) := by omega
      have hE : Hid (gsN A T i = T (i - A)) := by unfold Hid; rw [HG.out, if_neg (by omega), if_pos hm]
      rw [hm] at e2 e4
      generalize hx : T (i - A) = x at *
      clear hx hm HG hc
      go_enter Tryd.func53, Tryd.ntmps53
      go_wp2
      go_ret
      exact ⟨ret_int hE.out.symm, rfl⟩
    · have hcj := hc (i - 1) (by omega)
      have hE : Hid (gsN A T i = T (i - 1)) := by unfold Hid; rw [HG.out, if_neg (by omega), if_neg hm]
      have hm1 : (((i % A : Nat) : Int) == 0) = false := by rw [beq_eq_false_iff_ne]; omega
      have hlt : i % A < A := Nat.mod_lt _ (by omega)
      generalize i % A = m at *
      generalize hx : T (i - 1) = x at *
      clear hx HG hc
      go_enter Tryd.func53, Tryd.ntmps53
      go_wp2
      go_ret
      exact ⟨ret_int hE.out.symm, rfl⟩
end Go.Proofs.YtjhflcgphejddaaDoor

namespace Go.Proofs.YtjhflcgphejddaaDoor
open Go.RowKit Go.Maps
set_option linter.unusedVariables false
set_option maxRecDepth 100000

set_option maxHeartbeats 1000000 in
theorem rtold_bad {w : World} {v : Value} {n : Nat} {f : Nat → Int} (a b s : Int) (h : IntsIn w v n f) (hx : decF a b s n f ≠ 0) :
    Calls Tryd.prog 35 #[.int .i64 a, .int .i64 b, .int .i64 s, v] w fun e w' => e = .returned (.tuple #[.agg #[.int .i64 0, .int .i64 0, .slice none 0 0], .int .i64 (decF a b s n f : Nat)]) ∧ Below w.heap.size w w' := by
  have p1 := picIn_new w 0 0 (.slice none 0 0)
  have b1 : Below w.heap.size w (w.alloc (.cells #[.int .i64 0, .int .i64 0, .slice none 0 0] 46)) := (Below.refl _ _).alloc (Nat.le_refl _) _
  obtain ⟨⟨c0, g0⟩, ⟨c1, g1⟩, c2, g2⟩ := p1
  have HB := hide b1
  have HI := hide (h.below b1)
  obtain ⟨ad, cap, rfl⟩ := slice_shape h
  have HD : Hid (decF a b s n f = if (sidesOk a b && stepOk s) = false then 1 else restsF n f (a * b)) := rfl
  clear h b1
  by_cases hs : 1 ≤ a ∧ a ≤ 6 ∧ 1 ≤ b ∧ b ≤ 6 ∧ 1 ≤ s ∧ s ≤ 64
  · have hq : (sidesOk a b && stepOk s) = true := by rw [sidesOk_iff.2 (by omega), stepOk_iff.2 (by omega)]; rfl
    rw [hq, if_neg (by simp)] at HD
    obtain ⟨a1, a6, q1, q6, s1, s2⟩ := hs
    have hp0 : 0 ≤ a * b := Int.mul_nonneg (by omega) (by omega)
    have hp1 : a * b ≤ 36 := by
      have e1 : a * b ≤ 6 * b := Int.mul_le_mul_of_nonneg_right (by omega) (by omega)
      omega
    have C := hide (rrests_ok (a * b) HI.out (by omega))
    rw [← HD.out] at C
    have hne : ((decF a b s n f : Int) == 0) = false := by rw [beq_eq_false_iff_ne]; omega
    have hne2 : ((decF a b s n f : Int) != 0) = true := by simp [bne, hne]
    clear hq HD hx
    generalize decF a b s n f = k at *
    go_enter Tryd.func35, Tryd.ntmps35
    go_wp2_with fail
    refine (C.out).mono ?_
    rintro e w2 ⟨rfl, rfl⟩
    go_wp2
    refine bodyPost_ret (v := .tuple #[.agg #[.int .i64 0, .int .i64 0, .slice none 0 0], .int .i64 (k : Nat)]) (by simp [results, Tryd.results35, go_sem, c0, c1, c2]) rfl ⟨rfl, ?_⟩
    first
      | exact HB.out
      | exact (((HB.out.setCell (Nat.le_refl _) _).setCell (Nat.le_refl _) _).setCell (Nat.le_refl _) _)
  · have HE : Hid (decF a b s n f = 1) := by
      unfold Hid
      rw [HD.out, if_pos]
      rw [← Bool.not_eq_true, Bool.and_eq_true, sidesOk_iff, stepOk_iff]
      omega
    have hw : a < 1 ∨ (1 ≤ a ∧ 6 < a) ∨ (1 ≤ a ∧ a ≤ 6 ∧ b < 1) ∨ (1 ≤ a ∧ a ≤ 6 ∧ 1 ≤ b ∧ 6 < b) ∨ (1 ≤ a ∧ a ≤ 6 ∧ 1 ≤ b ∧ b ≤ 6 ∧ s < 1) ∨ (1 ≤ a ∧ a ≤ 6 ∧ 1 ≤ b ∧ b ≤ 6 ∧ 1 ≤ s ∧ 64 < s) := by omega
    clear hs HD hx
    rcases hw with h | ⟨h1, h⟩ | ⟨h1, h2, h⟩ | ⟨h1, h2, h3, h⟩ | ⟨h1, h2, h3, h4, h⟩ | ⟨h1, h2, h3, h4, h5, h⟩ <;>
    · go_enter Tryd.func35, Tryd.ntmps35
      go_wp2
      refine bodyPost_ret (v := .tuple #[.agg #[.int .i64 0, .int .i64 0, .slice none 0 0], .int .i64 1]) (by simp [results, Tryd.results35, go_sem, c0, c1, c2]) rfl ⟨by rw [HE.out]; rfl, ?_⟩
      first
        | exact HB.out
        | exact (((HB.out.setCell (Nat.le_refl _) _).setCell (Nat.le_refl _) _).setCell (Nat.le_refl _) _)

set_option maxHeartbeats 4000000 in
theorem rtold_new {w : World} {v : Value} {n : Nat} {f : Nat → Int} {a b s : Int} {A B : Nat} (h : IntsIn w v n f) (o : DecOk a b s n f A B) :
    Calls Tryd.prog 35 #[.int .i64 a, .int .i64 b, .int .i64 s, v] w fun e w' => ∃ u, e = .returned (.tuple #[.agg #[.int .i64 a, .int .i64 b, u], .int .i64 0]) ∧ IntsIn w' u n (tellF A s fun i _ => f i) ∧ Below w.heap.size w w' ∧ ∀ k, u.ownBlock = some k → w.heap.size ≤ k := by
  obtain ⟨w1, hw1⟩ : ∃ w1, w1 = w.alloc (.cells #[.int .i64 0, .int .i64 0, .slice none 0 0] 46) := ⟨_, rfl⟩
  have b1 : Below w.heap.size w w1 := hw1 ▸ (Below.refl _ _).alloc (Nat.le_refl _) _
  have P2 : Hid (PicIn w1 w.heap.size 0 0 (.slice none 0 0)) := hide (hw1 ▸ picIn_new w _ _ _)
  have B2 := hide b1
  have HI := hide (h.below b1)
  have hl := o.le
  have h0 := o.pos
  have hn : (n : Int) = a * b := by rw [o.wide, o.high, o.many, Int.natCast_mul]
  have hp0 : 0 ≤ a * b := by omega
  have hp1 : a * b ≤ 36 := by omega
  have C := hide (rrests_ok (a * b) HI.out (by omega))
  rw [show restsF n f (a * b) = 0 by unfold restsF; rw [if_neg (by simp [hn]), restsOk_iff.2 o.rest, if_neg (by simp)]] at C
  have HR := hide o.rest
  have HT := hide (fun i => tellF_eq o.w1 s (fun j _ => f j) i)
  have HG := hide (fun i => gsN_in (A := A) (tellF_in o.w1 s (fun j _ => f j)) i)
  have a1 := o.w1
  have a6 := o.w6
  have s1 := o.s1
  have s2 := o.s2
  have ea := o.wide
  have q1 : 1 ≤ b := by have := o.high; have := o.h1; omega
  have q6 : b ≤ 6 := by have := o.high; have := o.h6; omega
  obtain ⟨i0, hi0, hz0, hz1, hz2⟩ := info_parts Tryd.infoInt
  have Hi := hide hi0
  have Hz0 := hide hz0
  have Hz1 := hide hz1
  have Hz2 := hide hz2
  obtain ⟨bb, oo, cap, rfl, hc⟩ : ∃ bb oo cap, v = .slice (some ⟨bb, oo, none⟩) n cap ∧ ∀ i, i < n → w.cell? ⟨bb, oo + i, none⟩ = some (.int .i64 (f i)) := by
    rcases h with ⟨h, _⟩ | ⟨_, b', o', c', e, hc⟩
    · omega
    · exact ⟨_, _, _, e, hc⟩
  have HC := hide hc
  subst ea
  generalize hTT : tellF A s (fun j _ => f j) = T at *
  clear h o b1 hc hn hi0 hz0 hz1 hz2 hTT
  subst hw1
  go_enter Tryd.func35, Tryd.ntmps35
  go_wp2_with fail
  refine (C.out).mono ?_
  rintro e w3 ⟨rfl, rfl⟩
  go_wp2
  go_loopw [11, 12, 13] (fun u i _ wr => ∃ (j : Nat) (ad : Option Addr) (cp : Nat), j ≤ n ∧ i = .int .i64 j ∧ u = .slice ad j cp ∧ wr.ownsRow (w.heap.size + 1) 3 1 u j ((List.range j).map fun k : Nat => .int .i64 (T k)) ∧ Hid (PicIn wr w.heap.size 0 0 (.slice none 0 0)) ∧ Below w.heap.size w wr) (fun _ i _ _ => n - (intOf i).toNat)
  case atStart => exact ⟨0, none, 0, Nat.zero_le _, rfl, rfl, World.ownsRow_nil _ _ _ _, P2, B2.out⟩
  case round =>
    obtain ⟨j, adr, cpr, hj, rfl, rfl, hX, PR, hb⟩ := hrel
    have HX := hide hX
    have HB := hide hb
    have hbig := PR.out.lt
    clear hX hb
    by_cases hlt : j < n
    · have hcj := cell_below HB.out (HC.out j hlt)
      have hr := HR.out j hlt
      have hg := HG.out j
      have K1 := hide (rguess_ok (w := wr) (own_in HX.out) a1 a6 (by omega))
      have K2 := hide (rclamp_ok (gsN A T j + f j * s) wr)
      rw [← HT.out j] at K2
      have p0 : -255 * s ≤ f j * s := Int.mul_le_mul_of_nonneg_right hr.1 (by omega)
      have p1 : f j * s ≤ 255 * s := Int.mul_le_mul_of_nonneg_right hr.2 (by omega)
      have p2 : -16320 ≤ f j * s := by omega
      have p3 : f j * s ≤ 16320 := by omega
      have HM : Hid ((List.range (j + 1)).map (fun k : Nat => Value.int .i64 (T k)) = (List.range j).map (fun k : Nat => Value.int .i64 (T k)) ++ [.int .i64 (T j)]) := by
        unfold Hid; rw [List.range_succ, List.map_append]; rfl
      clear p0 p1
      generalize gsN A T j = g at *
      generalize f j = x at *
      generalize T j = z at *
      obtain ⟨g1, g2⟩ := hg
      obtain ⟨r1, r2⟩ := hr
      go_wp2_with fail
      refine (K1.out).mono ?_
      rintro e w3 ⟨rfl, rfl⟩
      go_wp2_with fail
      refine (K2.out).mono ?_
      rintro e w3 ⟨rfl, rfl⟩
      have hz1' := Hz1.out
      go_wp2_with (at_builtin; refine wpList_append_lies _ rfl _ _ 36 rfl (w.heap.size + 1) 3 i0 (.int .i64 0) 1 8 Tryd.underlying36 Hi.out Hz0.out Hz1.out Hz2.out rfl (by decide) _ _ _ rfl (HX.out.alloc _) ⟨wr.heap.size, 0, none⟩ 1 1 [.int .i64 z] rfl rfl (cell_one_new _ _ _) (fun x hx => by simp at hx; subst hx; rfl) (by decide) (by unfold maxLen; omega) (by omega) (by simp; omega) _ rfl ?_; intro g3 cap3 w5 hown3 hgrow3 hat3 hlt3)
      go_roundw
      case rel =>
        have hB5 : Below (w.heap.size + 1) wr w5 := ((Below.refl (w.heap.size + 1) wr).alloc (by omega) _).grown hgrow3 (by simp; omega) (fun q hq => (HX.out.lt q hq).1)
        have R : j + 1 ≤ n ∧ Value.int .i64 ((j : Int) + 1) = .int .i64 ((j + 1 : Nat) : Int) ∧ Value.slice (some ⟨g3, 0, none⟩) (j + 1) cap3 = .slice (some ⟨g3, 0, none⟩) (j + 1) cap3
            ∧ w5.ownsRow (w.heap.size + 1) 3 1 (.slice (some ⟨g3, 0, none⟩) (j + 1) cap3) (j + 1) ((List.range (j + 1)).map fun k : Nat => .int .i64 (T k)) ∧ Hid (PicIn w5 w.heap.size 0 0 (.slice none 0 0)) ∧ Below w.heap.size w w5 :=
          ⟨by omega, by simp, rfl, by rw [HM.out]; exact hown3, PR.out.mono hB5 (by omega), HB.out.trans (hB5.mono (by omega))⟩
        first
          | exact ⟨j + 1, some ⟨g3, 0, none⟩, cap3, R⟩
          | ((repeat apply Exists.intro); exact ⟨⟨j + 1, some ⟨g3, 0, none⟩, cap3, R⟩, rfl⟩)
      case measure => simp [intOf]; omega
    · obtain rfl : j = n := by omega
      obtain ⟨⟨u0, g0⟩, ⟨u1, g1⟩, u2, g2⟩ := PR.out
      go_wp2
      refine bodyPost_ret (v := .tuple #[.agg #[.int .i64 A, .int .i64 b, .slice adr j cpr], .int .i64 0]) (by simp [results, Tryd.results35, go_sem, u0, u1, u2]) rfl ⟨_, rfl, ?_, ?_, fun k e => by have := (HX.out.lt k e).1; omega⟩
      · have hlt9 : w.heap.size < w.heap.size + 1 := by omega
        exact own_in (ownsRow_setCell_below (ownsRow_setCell_below (ownsRow_setCell_below HX.out hlt9 _) hlt9 _) hlt9 _)
      · exact ((HB.out.setCell (Nat.le_refl _) _).setCell (Nat.le_refl _) _).setCell (Nat.le_refl _) _
theorem rtold_ok {w : World} {v : Value} {n : Nat} {f : Nat → Int} {a b s : Int} {A B : Nat} (h : IntsIn w v n f) (o : DecOk a b s n f A B) :
    Calls Tryd.prog 35 #[.int .i64 a, .int .i64 b, .int .i64 s, v] w fun e w' => ∃ u, e = .returned (.tuple #[.agg #[.int .i64 a, .int .i64 b, u], .int .i64 0]) ∧ IntsIn w' u n (tellF A s fun i _ => f i) ∧ Below w.heap.size w w' :=
  (rtold_new h o).mono fun e w' ⟨u, he, h1, hb, _⟩ => ⟨u, he, h1, hb⟩
end Go.Proofs.YtjhflcgphejddaaDoor
