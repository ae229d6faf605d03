/-
  Lemmas for the law above, joined into one text (BmB, BmNb, RcG). No statement is proved here.
-/
import Derived.Test.YtjhflcgphejddaaDoorBG11
import Derived.Test.YtjhflcgphejddaaDoorBG25
import Derived.Test.YtjhflcgphejddaaDoorBG9
import Derived.Test.YtjhflcgphejddaaDoorBG23
import Derived.Test.YtjhflcgphejddaaDoorBG0
import Derived.Test.YtjhflcgphejddaaDoorBG14
namespace Go.Proofs.YtjhflcgphejddaaDoor
open Go.RowKit
set_option linter.unusedVariables false
set_option maxRecDepth 100000

/-- A reader: of these m bits, those from a on are left; they lie below Q. -/
structure RdB (w : World) (b Q : Nat) (g : Nat → Int) (m a : Nat) (v : Value) : Prop where
  c0 : w.cell? ⟨b, 0, none⟩ = some v
  f0 : w.frozen? ⟨b, 0, none⟩ = false
  sl : SlI w v (m - a) (fun i => g (a + i))
  ne : ∀ k, v.ownBlock = some k → k ≠ b
  lt : ∀ k, v.ownBlock = some k → k < Q
  le : a ≤ m
  fo : ∃ bb o cap, v = .slice (some ⟨bb, o, none⟩) (m - a) cap
theorem RdB.bl {w : World} {b Q m a : Nat} {g : Nat → Int} {v : Value} (h : RdB w b Q g m a v) : b < w.heap.size := cell_lt h.c0
theorem RdB.below {w w' : World} {b Q m a : Nat} {g : Nat → Int} {v : Value} (h : RdB w b Q g m a v) (hb : Below w.heap.size w w') : RdB w' b Q g m a v :=
  ⟨(hb.cell (p := ⟨b, 0, none⟩) h.bl).trans h.c0, (hb.frozen (p := ⟨b, 0, none⟩) h.bl).trans h.f0, h.sl.below hb, h.ne, h.lt, h.le, h.fo⟩
theorem SlI.kept {w W : World} {b n : Nat} {v : Value} {f : Nat → Int} (h : SlI w v n f) (hne : ∀ k, v.ownBlock = some k → k ≠ b) (hk : Kept (fun i => i = b) w W) : SlI W v n f := by
  obtain ⟨ad, cap, rfl, h1, h2, h3⟩ := h
  refine ⟨ad, cap, rfl, h1, h2, fun h0 => ?_⟩
  obtain ⟨bb, o, rfl, hc⟩ := h3 h0
  exact ⟨bb, o, rfl, fun i hi => by rw [World.cell?_of_block (w := w) (hk.block bb (cell_lt (hc i hi)) (hne bb rfl))]; exact hc i hi⟩
theorem SlI.mono {w W : World} {B n : Nat} {v : Value} {f : Nat → Int} (h : SlI w v n f) (hlt : ∀ k, v.ownBlock = some k → k < B) (hb : Below B w W) : SlI W v n f := by
  obtain ⟨ad, cap, rfl, h1, h2, h3⟩ := h
  refine ⟨ad, cap, rfl, h1, h2, fun h0 => ?_⟩
  obtain ⟨bb, o, rfl, hc⟩ := h3 h0
  exact ⟨bb, o, rfl, fun i hi => (hb.cell (p := ⟨bb, o + i, none⟩) (hlt bb rfl)).trans (hc i hi)⟩
/-- Where blocks below B are as they were, and the reader and its bits lie there, it is as it was. -/
theorem RdB.mono {w w' : World} {B b Q m a : Nat} {g : Nat → Int} {v : Value} (h : RdB w b Q g m a v) (hB : b < B) (hQ : Q ≤ B) (hb : Below B w w') : RdB w' b Q g m a v :=
  ⟨(hb.cell (p := ⟨b, 0, none⟩) hB).trans h.c0, (hb.frozen (p := ⟨b, 0, none⟩) hB).trans h.f0, h.sl.mono (fun k e => Nat.lt_of_lt_of_le (h.lt k e) hQ) hb, h.ne, h.lt, h.le, h.fo⟩
theorem RdB.other {w : World} {b Q b2 o m a : Nat} {g : Nat → Int} {v : Value} (h : RdB w b Q g m a v) (hne : b ≠ b2) (hQ : Q ≤ b2) (u : Value) : RdB (w.setCell ⟨b2, o, none⟩ u) b Q g m a v := by
  refine ⟨?_, by rw [World.frozen?_setCell]; exact h.f0, ?_, h.ne, h.lt, h.le, h.fo⟩
  · rw [World.cell?_setCell_other _ _ _ _ (fun e => hne (congrArg Addr.block e).symm)]; exact h.c0
  · exact h.sl.kept (b := b2) (fun k e => by have := h.lt k e; omega) ((Kept.refl _ w).setCell _ _ (Or.inl rfl))
/-- The reader goes on. -/
theorem RdB.cut {w : World} {b Q m a E : Nat} {g : Nat → Int} {v sl : Value} (h : RdB w b Q g m a v) (hc : Cut v sl (m - a) E) (hE : a + E ≤ m) (ho : ∀ k, sl.ownBlock = some k → v.ownBlock = some k) (hf : ∃ bb o cap, sl = .slice (some ⟨bb, o, none⟩) (m - a - E) cap) : RdB (w.setCell ⟨b, 0, none⟩ sl) b Q g m (a + E) sl := by
  have h1 := h.sl.kept h.ne ((Kept.refl _ w).setCell ⟨b, 0, none⟩ sl (Or.inl rfl))
  have h2 := hc _ _ h1
  refine ⟨World.cell?_setCell_same _ _ _ h.c0, by rw [World.frozen?_setCell]; exact h.f0, ?_, fun k e => h.ne k (ho k e), fun k e => h.lt k (ho k e), hE, by rw [show m - (a + E) = m - a - E by omega]; exact hf⟩
  rw [show m - (a + E) = m - a - E by omega]
  exact h2.congr (fun i _ => by show g (a + (E + i)) = g (a + E + i); rw [Nat.add_assoc])
theorem RdB.bits {w : World} {b Q m a : Nat} {g : Nat → Int} {v : Value} (h : RdB w b Q g m a v) (hg : ∀ i, i < m → g i = 0 ∨ g i = 1) : ∀ i, i < m - a → g (a + i) = 0 ∨ g (a + i) = 1 := fun i hi => hg _ (by have := h.le; omega)
/-- Of a slice its first E, if it has them. -/
theorem SlI.take {w : World} {m E b o cap : Nat} {f : Nat → Int} (h : SlI w (.slice (some ⟨b, o, none⟩) m cap) m f) (hE : E ≤ m) : SlI w (.slice (some ⟨b, o, none⟩) E cap) E f := by
  obtain ⟨ad, cap', e, h1, h2, h3⟩ := h
  cases e
  refine ⟨_, _, rfl, by omega, h2, fun h0 => ?_⟩
  obtain ⟨b', o', e', hc⟩ := h3 (by omega)
  exact ⟨b', o', e', fun i hi => hc i (by omega)⟩
end Go.Proofs.YtjhflcgphejddaaDoor

namespace Go.Proofs.YtjhflcgphejddaaDoor
open Go.RowKit
set_option linter.unusedVariables false
set_option maxRecDepth 100000

set_option maxHeartbeats 2000000 in
theorem bnum_ok {w : World} {b Q m a many : Nat} {v : Value} {g : Nat → Int} (h : RdB w b Q g m a v) (hm : m ≤ 2000) (hk : many ≤ 2) (hk1 : 1 ≤ many) (hg : ∀ i, i < m → g i = 0 ∨ g i = 1) :
    Calls Tryd.prog 63 #[.pointer (some ⟨b, 0, none⟩), .int .i64 many] w fun e w' => (m < a + many ∧ e = .returned (.tuple #[.int .i64 0, .bool false]) ∧ w = w') ∨ (a + many ≤ m ∧ ∃ v', e = .returned (.tuple #[.int .i64 (valN g a 0 many : Nat), .bool true]) ∧ RdB w' b Q g m (a + many) v' ∧ Kept (fun i => i = b) w w') := by
  have HR := hide h
  have hle := h.le
  obtain ⟨ad, cap, rfl, h1, h2, h3⟩ := h.sl
  have c0 := h.c0
  have f0 := h.f0
  unfold maxLen at h2
  by_cases c : m < a + many
  · have hlt : m - a < many := by omega
    have HC := hide c
    clear h h3 c hg
    go_enter Tryd.func63, Tryd.ntmps63
    go_wp2
    go_ret2
    exact Or.inl ⟨HC.out, rfl, rfl⟩
  · obtain ⟨bb, oo, rfl, hc⟩ := h3 (by omega)
    have HC := hide hc
    have hle2 : many ≤ m - a := by omega
    have HG : Hid (∀ k, k < many → g (a + k) = 0 ∨ g (a + k) = 1) := fun k hk => hg _ (by omega)
    have HVs := hide (fun k => valN_succ g a 0 k)
    have HVl : Hid (∀ k, k ≤ many → valN g a 0 k ≤ 3) := fun k hk => by
      have h9 := (valN_lt (g := g) (p := a) (v := 0) (k := k) (fun i hi => hg _ (by omega))).2
      have : 2 ^ k ≤ 2 ^ 2 := Nat.pow_le_pow_right (by omega) (by omega)
      omega
    have HV0 : Hid (valN g a 0 0 = 0) := rfl
    have HM : Hid (a + many ≤ m) := by unfold Hid; omega
    generalize valN g a 0 = V at *
    clear h hc hg h3 c
    go_enter Tryd.func63, Tryd.ntmps63
    go_wp2
    go_loop [6, 23] (fun u i => ∃ k : Nat, k ≤ many ∧ i = .int .i64 k ∧ u = .int .i64 (V k : Nat)) (fun _ i => many - (intOf i).toNat)
    case atStart => exact ⟨0, Nat.zero_le _, rfl, by rw [HV0.out]; rfl⟩
    case round =>
      obtain ⟨k, hkk, rfl, rfl⟩ := hrel
      by_cases hlt : k < many
      · have hcell := HC.out k (by omega)
        have hfb := HG.out k hlt
        have hS := HVs.out k
        have hV := HVl.out k (by omega)
        obtain ⟨z, hz, hz1⟩ : ∃ z : Nat, g (a + k) = (z : Nat) ∧ z ≤ 1 := ⟨(g (a + k)).toNat, by omega, by omega⟩
        rw [hz] at hcell hS
        rw [Int.toNat_natCast] at hS
        have HS := hide hS
        have f4 : bits .or .i64 (((V k : Nat) : Int) * 2) (z : Int) = ((2 * V k + z : Nat) : Int) := by
          have := i64_or_bit (V k) z hz1 (by omega)
          rw [← this]; congr 1; omega
        clear hfb hz hS
        generalize V k = x at *
        go_wp2
        go_round
        case rel => exact ⟨k + 1, by omega, by go_num, by rw [HS.out]; first | (simp; done) | (congr 1; omega)⟩
        case measure => simp [intOf]; omega
      · obtain rfl : k = many := by omega
        have hcp : k ≤ cap := by omega
        by_cases cE : cap = k
        · go_wp2
          go_ret2
          exact Or.inr ⟨HM.out, rfl, ⟨_, HR.out.cut (cut_end (by omega) (by unfold maxLen; omega)) HM.out (fun k e => e) ⟨_, _, _, rfl⟩⟩, (Kept.refl _ _).setCell _ _ (Or.inl rfl)⟩
        · go_wp2
          go_ret2
          exact Or.inr ⟨HM.out, rfl, ⟨_, HR.out.cut cut_mid HM.out (fun k e => e) ⟨_, _, _, rfl⟩⟩, (Kept.refl _ _).setCell _ _ (Or.inl rfl)⟩
end Go.Proofs.YtjhflcgphejddaaDoor

namespace Go.Proofs.YtjhflcgphejddaaDoor
open Go.RowKit
set_option linter.unusedVariables false
set_option maxRecDepth 100000

def bitOk (n : Int) : Bool := decide (n = 0) || decide (n = 1)
theorem bitOk_iff {n : Int} : bitOk n = true ↔ n = 0 ∨ n = 1 := by simp [bitOk]
theorem bitOk_not {n : Int} : bitOk n = false ↔ n ≠ 0 ∧ n ≠ 1 := by rw [← Bool.not_eq_true, bitOk_iff]; omega
/-- Whether each of the first is a bit. -/
def bitsOk (f : Nat → Int) : Nat → Bool
  | 0 => true
  | n + 1 => bitsOk f n && bitOk (f n)
theorem bitsOk_iff {f : Nat → Int} : ∀ {n}, bitsOk f n = true ↔ ∀ i, i < n → f i = 0 ∨ f i = 1
  | 0 => ⟨fun _ i hi => absurd hi (Nat.not_lt_zero _), fun _ => rfl⟩
  | n + 1 => by
    show (bitsOk f n && bitOk (f n)) = true ↔ _
    rw [Bool.and_eq_true, bitsOk_iff, bitOk_iff]
    constructor
    · intro h i hi
      by_cases c : i = n
      · subst c; exact h.2
      · exact h.1 i (by omega)
    · intro h
      exact ⟨fun i hi => h i (by omega), h n (by omega)⟩

theorem nbit_ok (n : Int) (w : World) : Calls Tryd.prog 93 #[.int .i64 n] w fun e w' => e = .returned (.bool (!bitOk n)) ∧ w = w' := by
  by_cases c : n = 0
  · subst c
    go_enter Tryd.func93, Tryd.ntmps93
    go_wp2
    go_ret
    exact ⟨rfl, rfl⟩
  · by_cases c2 : n = 1
    · subst c2
      clear c
      go_enter Tryd.func93, Tryd.ntmps93
      go_wp2
      go_ret
      exact ⟨rfl, rfl⟩
    · have HZ : Hid (bitOk n = false) := bitOk_not.2 ⟨c, c2⟩
      have h1 : (n != 0) = true := by simp [bne, c]
      have h2 : (n != 1) = true := by simp [bne, c2]
      have h3 : (n == 0) = false := by rw [beq_eq_false_iff_ne]; exact c
      have h4 : (n == 1) = false := by rw [beq_eq_false_iff_ne]; exact c2
      clear c c2
      go_enter Tryd.func93, Tryd.ntmps93
      go_wp2
      go_ret
      exact ⟨ret_bool (by rw [HZ.out]; rfl), rfl⟩

set_option maxHeartbeats 1000000 in
theorem bidx_ok {w : World} {v : Value} {n : Nat} {f : Nat → Int} (h : IntsIn w v n f) (hn : n ≤ 2000) :
    Calls Tryd.prog 80 #[v, .func (.func 93) #[] #[]] w fun e w' => ∃ i : Int, e = .returned (.int .i64 i) ∧ IsAt (fun j => !bitOk (f j)) n i ∧ w = w' := by
  rcases h with ⟨rfl, a, cap, rfl⟩ | ⟨h0, b, o, cap, rfl, hc⟩
  · go_enter Tryd.func80, Tryd.ntmps80
    go_wp2
    go_loop [8] (fun i => i = .int .i64 0) (fun _ => 0)
    case atStart => rfl
    case round =>
      obtain rfl := hrel
      go_wp2
      go_ret
      exact ⟨_, rfl, Or.inl ⟨rfl, fun j hj => absurd hj (Nat.not_lt_zero _)⟩, rfl⟩
  · have HC := hide hc
    clear hc
    go_enter Tryd.func80, Tryd.ntmps80
    go_wp2
    go_loop [5, 8] (fun _ i => ∃ j : Nat, j ≤ n ∧ i = .int .i64 j ∧ ∀ q, q < j → bitOk (f q) = true) (fun _ i => n - (intOf i).toNat)
    case atStart => exact ⟨0, Nat.zero_le _, rfl, fun q hq => absurd hq (Nat.not_lt_zero _)⟩
    case round =>
      obtain ⟨j, hj, rfl, hno⟩ := hrel
      have HN := hide hno
      clear hno
      by_cases hlt : j < n
      · have hc := HC.out j hlt
        have K := hide (nbit_ok (f j) w)
        generalize hx : f j = x at *
        have HX := hide hx
        clear hx
        cases hq : bitOk x with
        | false =>
          have HQ := hide hq
          rw [hq] at K
          clear hq
          go_wp2_with (go_at_call 93; refine (K.out).mono ?_; rintro e w1 ⟨rfl, rfl⟩)
          go_ret
          exact ⟨_, rfl, Or.inr ⟨j, rfl, hlt, by show (!bitOk (f j)) = true; rw [HX.out, HQ.out]; rfl⟩, rfl⟩
        | true =>
          have HQ := hide hq
          rw [hq] at K
          clear hq
          go_wp2_with (go_at_call 93; refine (K.out).mono ?_; rintro e w1 ⟨rfl, rfl⟩)
          go_round
          case rel =>
            refine ⟨j + 1, by omega, by go_num, fun q hq => ?_⟩
            by_cases c : q = j
            · rw [c, HX.out]; exact HQ.out
            · exact HN.out q (by omega)
          case measure => simp [intOf]; omega
      · obtain rfl : j = n := by omega
        go_wp2
        go_ret
        exact ⟨_, rfl, Or.inl ⟨rfl, fun q hq => by show (!bitOk (f q)) = false; rw [HN.out q hq]; rfl⟩, rfl⟩

theorem bcont_ok {w : World} {v : Value} {n : Nat} {f : Nat → Int} (h : IntsIn w v n f) (hn : n ≤ 2000) :
    Calls Tryd.prog 57 #[v, .func (.func 93) #[] #[]] w fun e w' => e = .returned (.bool (!bitsOk f n)) ∧ w = w' := by
  have K := hide (bidx_ok h hn)
  clear h
  go_enter Tryd.func57, Tryd.ntmps57
  go_wp2_with fail
  refine (K.out).mono ?_
  rintro e w1 ⟨i, rfl, hi, rfl⟩
  rcases hi with ⟨rfl, ha⟩ | ⟨j, rfl, hj, hq⟩
  · have e : bitsOk f n = true := bitsOk_iff.2 fun i hi => bitOk_iff.1 (by have := ha i hi; simpa using this)
    have HE := hide e
    clear e ha
    go_wp2
    go_ret
    exact ⟨ret_bool (by rw [HE.out]; rfl), rfl⟩
  · have e : bitsOk f n = false := by
      rw [← Bool.not_eq_true, bitsOk_iff]
      intro hall
      have h9 := bitOk_iff.2 (hall j hj)
      simp [h9] at hq
    have HE := hide e
    clear e hq
    go_wp2
    go_ret
    exact ⟨ret_bool (by rw [HE.out]; rfl), rfl⟩
end Go.Proofs.YtjhflcgphejddaaDoor
