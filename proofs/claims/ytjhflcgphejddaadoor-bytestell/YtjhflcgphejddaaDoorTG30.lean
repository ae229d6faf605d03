/-
  Lemmas for the law above, joined into one text (RRbK, RAlW, RAlS). No statement is proved here.
-/
import Derived.Test.YtjhflcgphejddaaDoorTG25
import Derived.Test.YtjhflcgphejddaaDoorTG29
import Derived.Test.YtjhflcgphejddaaDoorTG10
import Derived.Test.YtjhflcgphejddaaDoorTG2
import Derived.Test.YtjhflcgphejddaaDoorTG8
namespace Go.Proofs.YtjhflcgphejddaaDoor
open Go.RowKit
set_option linter.unusedVariables false
set_option maxRecDepth 100000

theorem RdAt.other {w : World} {b b2 o : Nat} {s : Value} {a : Nat} {bad : Bool} (h : RdAt w b s a bad) (hne : b ≠ b2) (u : Value) : RdAt (w.setCell ⟨b2, o, none⟩ u) b s a bad := by
  refine ⟨?_, ?_, ?_, by rw [World.frozen?_setCell]; exact h.f1, by rw [World.frozen?_setCell]; exact h.f2⟩
  · rw [World.cell?_setCell_other _ _ _ _ (fun e => hne (congrArg Addr.block e).symm)]; exact h.c0
  · rw [World.cell?_setCell_other _ _ _ _ (fun e => hne (congrArg Addr.block e).symm)]; exact h.c1
  · rw [World.cell?_setCell_other _ _ _ _ (fun e => hne (congrArg Addr.block e).symm)]; exact h.c2
theorem RdAt.below_ {w w' : World} {b : Nat} {s : Value} {a : Nat} {bad : Bool} (h : RdAt w b s a bad) (hb : Below w.heap.size w w') : RdAt w' b s a bad := h.below h.lt hb

/-- What was read so far: bad, then no film is told; else these. -/
def RSt (t : ByteArray) (m K N i a : Nat) (bd : Bool) (D : Nat → Cd) : Prop :=
  (bd = false → ∃ l, flP (bitB t) m K i = some (l, a) ∧ ∀ q, q < i → l[q]? = some (D q)) ∧ (bd = true → flP (bitB t) m K N = none)
/-- What is ahead of a picture's rests. -/
def HSt (t : ByteArray) (m a : Nat) (bd al : Bool) (x y : Int) (a1 : Nat) (bd1 : Bool) : Prop :=
  (bd1 = false → bd = false ∧ hdP (bitB t) m a = some (al, x, y, a1)) ∧ (bd1 = true → bd = true ∨ hdP (bitB t) m a = none)
/-- Its rests so far. -/
def NSt (t : ByteArray) (m K a1 : Nat) (bd1 : Bool) (j : Nat) (xs : List Int) (a : Nat) (bd : Bool) : Prop :=
  (bd = false → bd1 = false ∧ rsP (bitB t) m a1 j = some (xs, a)) ∧ (bd = true → bd1 = true ∨ rsP (bitB t) m a1 K = none)
theorem NSt.start (t : ByteArray) (m K a1 : Nat) (bd1 : Bool) : NSt t m K a1 bd1 0 [] a1 bd1 := ⟨fun h => ⟨h, rfl⟩, fun h => Or.inl h⟩
theorem NSt.step {t : ByteArray} {m K a1 : Nat} {bd1 : Bool} {j : Nat} {xs : List Int} {a : Nat} {bd : Bool} (h : NSt t m K a1 bd1 j xs a bd) (hj : j < K) {z : Int} {a' : Nat} {bd' : Bool} (h1 : bd = true → bd' = true) (h2 : bd = false → (fstN (bitB t) m 2 a = none ∧ bd' = true) ∨ (fstN (bitB t) m 2 a = some (z, a') ∧ bd' = false)) : NSt t m K a1 bd1 (j + 1) (xs ++ [z]) a' bd' := by
  cases hb : bd with
  | true =>
    have hb' := h1 hb
    exact ⟨(fun q => by rw [hb'] at q; cases q), fun _ => h.2 hb⟩
  | false =>
    obtain ⟨e1, e2⟩ := h.1 hb
    rcases h2 hb with ⟨q1, q2⟩ | ⟨q1, q2⟩
    · exact ⟨(fun q => by rw [q2] at q; cases q), fun _ => Or.inr (rsP_past (rsP_none e2 q1) (by omega))⟩
    · exact ⟨fun _ => ⟨e1, rsP_some e2 q1⟩, (fun q => by rw [q2] at q; cases q)⟩
theorem RSt.start (t : ByteArray) (m K N : Nat) (D : Nat → Cd) : RSt t m K N 0 0 false D := ⟨fun _ => ⟨[], rfl, fun q hq => absurd hq (Nat.not_lt_zero _)⟩, fun h => by cases h⟩
theorem RSt.step {t : ByteArray} {m K N i a : Nat} {bd : Bool} {D : Nat → Cd} (h : RSt t m K N i a bd D) (hi : i < N) {al bd1 bd2 : Bool} {x y : Int} {a1 a2 : Nat} {xs : List Int} (h1 : HSt t m a bd al x y a1 bd1) (h2 : NSt t m K a1 bd1 K xs a2 bd2) :
    RSt t m K N (i + 1) a2 bd2 (fun q => if q = i then ⟨al, x, y, K, fun r => xs.getD r 0⟩ else D q) := by
  refine ⟨fun hb => ?_, fun hb => ?_⟩
  · obtain ⟨e1, e2⟩ := h2.1 hb
    obtain ⟨e3, e4⟩ := h1.1 e1
    obtain ⟨l, e5, e6⟩ := h.1 e3
    have hl := flP_len e5
    refine ⟨l ++ [⟨al, x, y, K, fun r => xs.getD r 0⟩], flP_some e5 (cdP_some e4 e2), fun q hq => ?_⟩
    by_cases c : q = i
    · subst c
      rw [List.getElem?_append_right (by omega)]
      simp [hl]
    · rw [List.getElem?_append_left (by omega)]
      show l[q]? = some (if q = i then _ else D q)
      rw [if_neg c]
      exact e6 q (by omega)
  · cases hbd : bd with
    | true => exact h.2 hbd
    | false =>
      obtain ⟨l, e5, _⟩ := h.1 hbd
      have hnone : cdP (bitB t) m K a = none := by
        rcases h2.2 hb with q | q
        · rcases h1.2 q with r | r
          · rw [hbd] at r; cases r
          · exact cdP_none1 r
        · cases hb1 : bd1 with
          | true =>
            rcases h1.2 hb1 with r | r
            · rw [hbd] at r; cases r
            · exact cdP_none1 r
          | false => exact cdP_none2 (h1.1 hb1).2 q
      exact flP_past (flP_none e5 hnone) (by omega)
theorem HSt.alone {t : ByteArray} {m a : Nat} {bd : Bool} (h : a < m) (h1 : bitB t a = 1) : HSt t m a bd true 0 0 (a + 1) bd := by
  refine ⟨fun hb => ⟨hb, ?_⟩, fun hb => Or.inl hb⟩
  unfold hdP
  rw [if_pos h, if_pos h1]
theorem HSt.moved {t : ByteArray} {m a a1 a2 a3 : Nat} {bd bd1 bd2 bd3 : Bool} {z1 z2 : Int} (h0 : (a < m ∧ bitB t a = 0 ∧ a1 = a + 1 ∧ bd1 = bd) ∨ (a = m ∧ a1 = m ∧ bd1 = true))
    (h1 : bd2 = false ↔ bd1 = false ∧ a1 + 2 ≤ m) (h2 : a1 + 2 ≤ m → a2 = a1 + 2 ∧ z1 = 2 * bitB t a1 + bitB t (a1 + 1)) (h3 : bd3 = false ↔ bd2 = false ∧ a2 + 2 ≤ m) (h4 : a2 + 2 ≤ m → a3 = a2 + 2 ∧ z2 = 2 * bitB t a2 + bitB t (a2 + 1)) : HSt t m a bd false (z1 - 1) (z2 - 1) a3 bd3 := by
  refine ⟨fun hb => ?_, fun hb => ?_⟩
  · obtain ⟨e1, e2⟩ := h3.1 hb
    obtain ⟨e3, e4⟩ := h1.1 e1
    rcases h0 with ⟨q1, q2, rfl, q4⟩ | ⟨_, _, q⟩
    · obtain ⟨r1, r2⟩ := h2 e4
      obtain ⟨r3, r4⟩ := h4 e2
      subst r1
      refine ⟨q4.symm.trans e3, ?_⟩
      unfold hdP
      rw [if_pos q1, if_neg (by omega), if_pos (by omega), r2, r4, r3]
    · rw [e3] at q; cases q
  · cases hbd : bd with
    | true => exact Or.inl rfl
    | false =>
      right
      rcases h0 with ⟨q1, q2, rfl, q4⟩ | ⟨q1, _, _⟩
      · unfold hdP
        rw [if_pos q1, if_neg (by omega), if_neg]
        intro h5
        have hb1 : bd1 = false := q4.trans hbd
        have hb2 := h1.2 ⟨hb1, by omega⟩
        have := (h2 (by omega)).1
        have hb3 := h3.2 ⟨hb2, by omega⟩
        rw [hb] at hb3; cases hb3
      · unfold hdP
        rw [if_neg (by omega)]
end Go.Proofs.YtjhflcgphejddaaDoor

namespace Go.Proofs.YtjhflcgphejddaaDoor
open Go.RowKit
set_option linter.unusedVariables false
set_option maxRecDepth 100000

theorem rclamp_ok (x : Int) (w : World) :
    Calls Tryd.prog 54 #[.int .i64 x, .int .i64 255] w fun e w' => e = .returned (.int .i64 (clamp x)) ∧ w = w' := by
  unfold clamp
  by_cases h : x < 0
  · rw [show min (max x 0) 255 = 0 by omega]
    go_enter Tryd.func54, Tryd.ntmps54
    go_wp2
    go_ret
    exact ⟨rfl, rfl⟩
  · by_cases h2 : 255 < x
    · rw [show min (max x 0) 255 = 255 by omega]
      go_enter Tryd.func54, Tryd.ntmps54
      go_wp2
      go_ret
      exact ⟨rfl, rfl⟩
    · rw [show min (max x 0) 255 = x by omega]
      go_enter Tryd.func54, Tryd.ntmps54
      go_wp2
      go_ret
      exact ⟨rfl, rfl⟩

set_option maxHeartbeats 1000000 in
theorem rrests_ok {w : World} {v : Value} {n : Nat} {f : Nat → Int} (m : Int) (h : IntsIn w v n f) (hn : n ≤ 1000 ∨ (n : Int) ≠ m) :
    Calls Tryd.prog 52 #[v, .int .i64 m] w fun e w' => e = .returned (.int .i64 (restsF n f m : Nat)) ∧ w = w' := by
  have HD : Hid (restsF n f m = if (n : Int) ≠ m then 3 else if restsOk n f = false then 1 else 0) := rfl
  by_cases hne : (n : Int) = m
  · subst hne
    have hn : n ≤ 1000 := by omega
    rw [if_neg (by simp)] at HD
    rcases h with ⟨rfl, a, cap, rfl⟩ | ⟨h0, b, o, cap, rfl, hc⟩
    · have HE : Hid (restsF 0 f 0 = 0) := by unfold Hid restsF; simp [restsOk]
      clear HD
      go_enter Tryd.func52, Tryd.ntmps52
      go_wp2
      go_loop [5] (fun k => k = .int .i64 0) (fun _ => 0)
      case atStart => rfl
      case round =>
        obtain rfl := hrel
        go_wp2
        go_ret
        exact ⟨ret_int (by rw [HE.out]; rfl), rfl⟩
    · have HC := hide hc
      clear hc
      go_enter Tryd.func52, Tryd.ntmps52
      go_wp2
      go_loop [5] (fun i => ∃ j : Nat, j ≤ n ∧ i = .int .i64 j ∧ ∀ q, q < j → -255 ≤ f q ∧ f q ≤ 255) (fun i => n - (intOf i).toNat)
      case atStart => exact ⟨0, Nat.zero_le _, rfl, fun q hq => absurd hq (Nat.not_lt_zero _)⟩
      case round =>
        obtain ⟨j, hj, rfl, hno⟩ := hrel
        have HN := hide hno
        clear hno
        by_cases hlt : j < n
        · have hcj := HC.out j hlt
          by_cases hx : -255 ≤ f j ∧ f j ≤ 255
          · have HX := hide hx
            obtain ⟨x0, x1⟩ := hx
            generalize hz : f j = z at *
            have HZ := hide hz
            clear hz
            go_wp2
            go_round
            case rel =>
              refine ⟨j + 1, by omega, by go_num, fun q hq => ?_⟩
              by_cases c : q = j
              · rw [c, HZ.out]; exact HX.out
              · exact HN.out q (by omega)
            case measure => simp [intOf]; omega
          · have HE : Hid (restsF n f n = 1) := by
              unfold Hid
              rw [HD.out, if_pos]
              rw [← Bool.not_eq_true, restsOk_iff]
              exact fun h => hx (h j hlt)
            have hx' : f j < -255 ∨ (-255 ≤ f j ∧ 255 < f j) := by omega
            clear hx
            generalize f j = z at *
            rcases hx' with x0 | ⟨x0, x1⟩
            · go_wp2
              go_ret
              exact ⟨ret_int (by rw [HE.out]; rfl), rfl⟩
            · go_wp2
              go_ret
              exact ⟨ret_int (by rw [HE.out]; rfl), rfl⟩
        · obtain rfl : j = n := by omega
          have HE : Hid (restsF j f j = 0) := by
            unfold Hid
            rw [HD.out, if_neg]
            rw [restsOk_iff.2 HN.out]; simp
          go_wp2
          go_ret
          exact ⟨ret_int (by rw [HE.out]; rfl), rfl⟩
  · have hn1 : ((n : Int) == m) = false := by rw [beq_eq_false_iff_ne]; exact hne
    have hn3 : ((n : Int) != m) = true := by simp [bne, hn1]
    have HE : Hid (restsF n f m = 3) := by unfold Hid; rw [HD.out, if_pos hne]
    obtain ⟨ad, cap, rfl⟩ := slice_shape h
    clear hne HD h hn
    go_enter Tryd.func52, Tryd.ntmps52
    go_wp2
    go_ret
    exact ⟨ret_int (by rw [HE.out]; rfl), rfl⟩
end Go.Proofs.YtjhflcgphejddaaDoor

namespace Go.Proofs.YtjhflcgphejddaaDoor
open Go.RowKit
set_option linter.unusedVariables false
set_option maxRecDepth 100000

set_option maxHeartbeats 1000000 in
theorem rguess_ok {w : World} {v : Value} {i : Nat} {T : Nat → Int} {A : Nat} (h : IntsIn w v i T) (hA : 1 ≤ A) (hA6 : A ≤ 6) (hi : i ≤ 1000) :
    Calls Tryd.prog 53 #[v, .int .i64 A] w fun e w' => e = .returned (.int .i64 (gsN A T i)) ∧ w = w' := by
  have HG : Hid (gsN A T i = if i = 0 then 128 else if i % A = 0 then T (i - A) else T (i - 1)) := rfl
  rcases h with ⟨rfl, a, cap, rfl⟩ | ⟨h0, b, o, cap, rfl, hc⟩
  · go_enter Tryd.func53, Tryd.ntmps53
    go_wp2
    go_ret
    exact ⟨rfl, rfl⟩
  · have hA0 : ¬ A = 0 := by omega
    have e2 : (i : Int) % (A : Int) = ((i % A : Nat) : Int) := (Int.natCast_emod i A).symm
    have e4 : (i : Int).tmod (A : Int) = ((i % A : Nat) : Int) := by rw [Int.tmod_eq_emod_of_nonneg (by omega)]; exact e2
    have hz : ((i : Int) == 0) = false := by rw [beq_eq_false_iff_ne]; omega
    by_cases hm : i % A = 0
    · have hle : A ≤ i := Nat.le_of_dvd h0 (Nat.dvd_of_mod_eq_zero hm)
      have hcj := hc (i - A) (by omega)
      have e5 : ((i - A : Nat) : Int) = (i : Int) - (A : Int) := by omega
      have hE : Hid (gsN A T i = T (i - A)) := by unfold Hid; rw [HG.out, if_neg (by omega), if_pos hm]
      rw [hm] at e2 e4
      generalize hx : T (i - A) = x at *
      clear hx hm HG hc
      go_enter Tryd.func53, Tryd.ntmps53
      go_wp2
      go_ret
      exact ⟨ret_int hE.out.symm, rfl⟩
    · have hcj := hc (i - 1) (by omega)
      have hE : Hid (gsN A T i = T (i - 1)) := by unfold Hid; rw [HG.out, if_neg (by omega), if_neg hm]
      have hm1 : (((i % A : Nat) : Int) == 0) = false := by rw [beq_eq_false_iff_ne]; omega
      have hlt : i % A < A := Nat.mod_lt _ (by omega)
      generalize i % A = m at *
      generalize hx : T (i - 1) = x at *
      clear hx HG hc
      go_enter Tryd.func53, Tryd.ntmps53
      go_wp2
      go_ret
      exact ⟨ret_int hE.out.symm, rfl⟩
end Go.Proofs.YtjhflcgphejddaaDoor
