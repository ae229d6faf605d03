/-
  Lemmas for the law above, joined into one text (KeptT, BmK, BmB, BmNb, RcG, RcIdx, RcF). No statement is proved here.
-/
import Derived.Test.YtjhflcgphejddaaGreatDoorZG7
import Derived.Test.YtjhflcgphejddaaGreatDoorZG5
import Derived.Test.YtjhflcgphejddaaGreatDoorZG9
import Derived.Test.YtjhflcgphejddaaGreatDoorZG4
import Derived.Test.YtjhflcgphejddaaGreatDoorZG3
import Derived.Test.YtjhflcgphejddaaGreatDoorZG10
import Derived.Test.YtjhflcgphejddaaGreatDoorZG0
import Derived.Test.YtjhflcgphejddaaGreatDoorZG6
import Derived.Deep.QuietTactic
import Derived.BigQuiet
import Derived.Deep.DeepCutAuto
namespace Go.Proofs.YtjhflcgphejddaaGreatDoor
open Go.RowKit
set_option linter.unusedVariables false
set_option maxRecDepth 100000

theorem Kept.to_below {M : Nat → Prop} {w w' : World} (h : Kept M w w') {B : Nat} (hB : B ≤ w.heap.size) (hM : ∀ i, i < B → ¬ M i) : Below B w w' :=
  ⟨h.os, h.tape, h.output, h.size, fun i hi => h.block i (by omega) (hM i hi)⟩
theorem Kept.trans_ {M : Nat → Prop} {w w1 w2 : World} (h : Kept M w w1) (k : Kept M w1 w2) : Kept M w w2 :=
  ⟨k.os.trans h.os, k.tape.trans h.tape, k.output.trans h.output, Nat.le_trans h.size k.size, fun i hi hm => (k.block i (Nat.lt_of_lt_of_le hi h.size) hm).trans (h.block i hi hm)⟩
end Go.Proofs.YtjhflcgphejddaaGreatDoor

namespace Go.Proofs.YtjhflcgphejddaaGreatDoor
open Go.RowKit
set_option linter.unusedVariables false
set_option maxRecDepth 100000

theorem own_kept {w W : World} {B n e size rb : Nat} {v : Value} {xs : List Value} (h : w.ownsRow B e size v n xs) (hB : rb < B) (hk : Kept (fun i => i = rb) w W) : W.ownsRow B e size v n xs := by
  refine ⟨h.1, ?_⟩
  rcases h.2 with hn | ⟨g, cap, cur, hv, h1, hgg, rest⟩
  · exact .inl hn
  · exact .inr ⟨g, cap, cur, hv, h1, (hk.block g (Array.getElem?_eq_some_iff.1 hgg).1 (by omega)).trans hgg, rest⟩
theorem own_setK {w : World} {B n e size : Nat} {v : Value} {xs : List Value} (h : w.ownsRow B e size v n xs) {b : Nat} (hb : b < B) (o : Nat) (u : Value) : (w.setCell ⟨b, o, none⟩ u).ownsRow B e size v n xs := by
  refine ⟨h.1, ?_⟩
  rcases h.2 with hn | ⟨g, cap, cur, hv, h1, hgg, rest⟩
  · exact .inl hn
  · refine .inr ⟨g, cap, cur, hv, h1, ?_, rest⟩
    rw [Below.heap_setCell _ _ _ _ (by show g ≠ b; omega)]
    exact hgg
theorem RowS.kept {w W : World} {B rb : Nat} {e : TypeId} {z : Nat} {v : Value} {N : Nat} {hd : Nat → List Value} {S : Nat → Value} {n : Nat → Nat} {f : Nat → Nat → Int} (h : RowS w B e z v N hd S n f) (hB : rb < B) (hk : Kept (fun i => i = rb) w W) : RowS W B e z v N hd S n f :=
  ⟨own_kept h.own hB hk, h.hl, fun i hi => ints_other (h.ints i hi) (fun h0 k e => hk.block k (ints_lt (h.ints i hi) h0 k e) (by have := h.new i hi h0 k e; omega)), h.new, h.off⟩
theorem CodR.kept {w W : World} {B rb : Nat} {v : Value} {N : Nat} {C : Nat → Cd} (h : CodR w B v N C) (hB : rb < B) (hk : Kept (fun i => i = rb) w W) : CodR W B v N C := by
  obtain ⟨S, h⟩ := h; exact ⟨S, h.kept hB hk⟩
theorem CodR.congr {w : World} {B : Nat} {v : Value} {N : Nat} {C D : Nat → Cd} (h : CodR w B v N C) (e : ∀ i, i < N → C i = D i) : CodR w B v N D := by
  obtain ⟨S, h⟩ := h
  exact ⟨S, h.congr (fun i hi => by unfold codH; rw [e i hi]) (fun _ _ => rfl) (fun i hi => by rw [e i hi]) (fun i hi => by rw [e i hi])⟩
theorem CodIn.kept {w W : World} {b rb : Nat} {al : Bool} {x y : Int} {s : Value} (h : CodIn w b al x y s) (hne : b ≠ rb) (hk : Kept (fun i => i = rb) w W) : CodIn W b al x y s := by
  have hb := hk.block b h.lt hne
  have hc : ∀ o, W.cell? ⟨b, o, none⟩ = w.cell? ⟨b, o, none⟩ := fun o => World.cell?_of_block (w := w) hb
  have hf : ∀ o, W.frozen? ⟨b, o, none⟩ = w.frozen? ⟨b, o, none⟩ := fun o => World.frozen?_of_block (w := w) hb
  exact ⟨(hc 0).trans h.c0, (hc 1).trans h.c1, (hc 2).trans h.c2, (hc 3).trans h.c3, (hf 0).trans h.g0, (hf 1).trans h.g1, (hf 2).trans h.g2, (hf 3).trans h.g3⟩
theorem CodIn.setX {w : World} {b : Nat} {al : Bool} {x y : Int} {s : Value} (h : CodIn w b al x y s) (u : Int) : CodIn (w.setCell ⟨b, 1, none⟩ (.int .i64 u)) b al u y s := by
  refine ⟨?_, World.cell?_setCell_same _ _ _ h.c1, ?_, ?_, by rw [World.frozen?_setCell]; exact h.g0, by rw [World.frozen?_setCell]; exact h.g1, by rw [World.frozen?_setCell]; exact h.g2, by rw [World.frozen?_setCell]; exact h.g3⟩
  · rw [World.cell?_setCell_other _ _ _ _ (fun e => by cases e)]; exact h.c0
  · rw [World.cell?_setCell_other _ _ _ _ (fun e => by cases e)]; exact h.c2
  · rw [World.cell?_setCell_other _ _ _ _ (fun e => by cases e)]; exact h.c3
theorem CodIn.setY {w : World} {b : Nat} {al : Bool} {x y : Int} {s : Value} (h : CodIn w b al x y s) (u : Int) : CodIn (w.setCell ⟨b, 2, none⟩ (.int .i64 u)) b al x u s := by
  refine ⟨?_, ?_, World.cell?_setCell_same _ _ _ h.c2, ?_, by rw [World.frozen?_setCell]; exact h.g0, by rw [World.frozen?_setCell]; exact h.g1, by rw [World.frozen?_setCell]; exact h.g2, by rw [World.frozen?_setCell]; exact h.g3⟩
  · rw [World.cell?_setCell_other _ _ _ _ (fun e => by cases e)]; exact h.c0
  · rw [World.cell?_setCell_other _ _ _ _ (fun e => by cases e)]; exact h.c1
  · rw [World.cell?_setCell_other _ _ _ _ (fun e => by cases e)]; exact h.c3
end Go.Proofs.YtjhflcgphejddaaGreatDoor

namespace Go.Proofs.YtjhflcgphejddaaGreatDoor
open Go.RowKit
set_option linter.unusedVariables false
set_option maxRecDepth 100000

/-- A reader: of these m bits, those from a on are left; they lie below Q. -/
structure RdB (w : World) (b Q : Nat) (g : Nat → Int) (m a : Nat) (v : Value) : Prop where
  c0 : w.cell? ⟨b, 0, none⟩ = some v
  f0 : w.frozen? ⟨b, 0, none⟩ = false
  sl : SlI w v (m - a) (fun i => g (a + i))
  ne : ∀ k, v.ownBlock = some k → k ≠ b
  lt : ∀ k, v.ownBlock = some k → k < Q
  le : a ≤ m
  fo : ∃ bb o cap, v = .slice (some ⟨bb, o, none⟩) (m - a) cap
theorem RdB.bl {w : World} {b Q m a : Nat} {g : Nat → Int} {v : Value} (h : RdB w b Q g m a v) : b < w.heap.size := cell_lt h.c0
theorem RdB.below {w w' : World} {b Q m a : Nat} {g : Nat → Int} {v : Value} (h : RdB w b Q g m a v) (hb : Below w.heap.size w w') : RdB w' b Q g m a v :=
  ⟨(hb.cell (p := ⟨b, 0, none⟩) h.bl).trans h.c0, (hb.frozen (p := ⟨b, 0, none⟩) h.bl).trans h.f0, h.sl.below hb, h.ne, h.lt, h.le, h.fo⟩
theorem SlI.kept {w W : World} {b n : Nat} {v : Value} {f : Nat → Int} (h : SlI w v n f) (hne : ∀ k, v.ownBlock = some k → k ≠ b) (hk : Kept (fun i => i = b) w W) : SlI W v n f := by
  obtain ⟨ad, cap, rfl, h1, h2, h3⟩ := h
  refine ⟨ad, cap, rfl, h1, h2, fun h0 => ?_⟩
  obtain ⟨bb, o, rfl, hc⟩ := h3 h0
  exact ⟨bb, o, rfl, fun i hi => by rw [World.cell?_of_block (w := w) (hk.block bb (cell_lt (hc i hi)) (hne bb rfl))]; exact hc i hi⟩
theorem SlI.mono {w W : World} {B n : Nat} {v : Value} {f : Nat → Int} (h : SlI w v n f) (hlt : ∀ k, v.ownBlock = some k → k < B) (hb : Below B w W) : SlI W v n f := by
  obtain ⟨ad, cap, rfl, h1, h2, h3⟩ := h
  refine ⟨ad, cap, rfl, h1, h2, fun h0 => ?_⟩
  obtain ⟨bb, o, rfl, hc⟩ := h3 h0
  exact ⟨bb, o, rfl, fun i hi => (hb.cell (p := ⟨bb, o + i, none⟩) (hlt bb rfl)).trans (hc i hi)⟩
/-- Where blocks below B are as they were, and the reader and its bits lie there, it is as it was. -/
theorem RdB.mono {w w' : World} {B b Q m a : Nat} {g : Nat → Int} {v : Value} (h : RdB w b Q g m a v) (hB : b < B) (hQ : Q ≤ B) (hb : Below B w w') : RdB w' b Q g m a v :=
  ⟨(hb.cell (p := ⟨b, 0, none⟩) hB).trans h.c0, (hb.frozen (p := ⟨b, 0, none⟩) hB).trans h.f0, h.sl.mono (fun k e => Nat.lt_of_lt_of_le (h.lt k e) hQ) hb, h.ne, h.lt, h.le, h.fo⟩
theorem RdB.other {w : World} {b Q b2 o m a : Nat} {g : Nat → Int} {v : Value} (h : RdB w b Q g m a v) (hne : b ≠ b2) (hQ : Q ≤ b2) (u : Value) : RdB (w.setCell ⟨b2, o, none⟩ u) b Q g m a v := by
  refine ⟨?_, by rw [World.frozen?_setCell]; exact h.f0, ?_, h.ne, h.lt, h.le, h.fo⟩
  · rw [World.cell?_setCell_other _ _ _ _ (fun e => hne (congrArg Addr.block e).symm)]; exact h.c0
  · exact h.sl.kept (b := b2) (fun k e => by have := h.lt k e; omega) ((Kept.refl _ w).setCell _ _ (Or.inl rfl))
/-- The reader goes on. -/
theorem RdB.cut {w : World} {b Q m a E : Nat} {g : Nat → Int} {v sl : Value} (h : RdB w b Q g m a v) (hc : Cut v sl (m - a) E) (hE : a + E ≤ m) (ho : ∀ k, sl.ownBlock = some k → v.ownBlock = some k) (hf : ∃ bb o cap, sl = .slice (some ⟨bb, o, none⟩) (m - a - E) cap) : RdB (w.setCell ⟨b, 0, none⟩ sl) b Q g m (a + E) sl := by
  have h1 := h.sl.kept h.ne ((Kept.refl _ w).setCell ⟨b, 0, none⟩ sl (Or.inl rfl))
  have h2 := hc _ _ h1
  refine ⟨World.cell?_setCell_same _ _ _ h.c0, by rw [World.frozen?_setCell]; exact h.f0, ?_, fun k e => h.ne k (ho k e), fun k e => h.lt k (ho k e), hE, by rw [show m - (a + E) = m - a - E by omega]; exact hf⟩
  rw [show m - (a + E) = m - a - E by omega]
  exact h2.congr (fun i _ => by show g (a + (E + i)) = g (a + E + i); rw [Nat.add_assoc])
theorem RdB.bits {w : World} {b Q m a : Nat} {g : Nat → Int} {v : Value} (h : RdB w b Q g m a v) (hg : ∀ i, i < m → g i = 0 ∨ g i = 1) : ∀ i, i < m - a → g (a + i) = 0 ∨ g (a + i) = 1 := fun i hi => hg _ (by have := h.le; omega)
/-- Of a slice its first E, if it has them. -/
theorem SlI.take {w : World} {m E b o cap : Nat} {f : Nat → Int} (h : SlI w (.slice (some ⟨b, o, none⟩) m cap) m f) (hE : E ≤ m) : SlI w (.slice (some ⟨b, o, none⟩) E cap) E f := by
  obtain ⟨ad, cap', e, h1, h2, h3⟩ := h
  cases e
  refine ⟨_, _, rfl, by omega, h2, fun h0 => ?_⟩
  obtain ⟨b', o', e', hc⟩ := h3 (by omega)
  exact ⟨b', o', e', fun i hi => hc i (by omega)⟩
end Go.Proofs.YtjhflcgphejddaaGreatDoor

namespace Go.Proofs.YtjhflcgphejddaaGreatDoor
open Go.RowKit
set_option linter.unusedVariables false
set_option maxRecDepth 100000

set_option maxHeartbeats 2000000 in
theorem bnum_ok {w : World} {b Q m a many : Nat} {v : Value} {g : Nat → Int} (h : RdB w b Q g m a v) (hm : m ≤ 2000) (hk : many ≤ 2) (hk1 : 1 ≤ many) (hg : ∀ i, i < m → g i = 0 ∨ g i = 1) :
    Calls Tryz.prog 129 #[.pointer (some ⟨b, 0, none⟩), .int .i64 many] w fun e w' => (m < a + many ∧ e = .returned (.tuple #[.int .i64 0, .bool false]) ∧ w = w') ∨ (a + many ≤ m ∧ ∃ v', e = .returned (.tuple #[.int .i64 (valN g a 0 many : Nat), .bool true]) ∧ RdB w' b Q g m (a + many) v' ∧ Kept (fun i => i = b) w w') := by
  have HR := hide h
  have hle := h.le
  obtain ⟨ad, cap, rfl, h1, h2, h3⟩ := h.sl
  have c0 := h.c0
  have f0 := h.f0
  unfold maxLen at h2
  by_cases c : m < a + many
  · have hlt : m - a < many := by omega
    have HC := hide c
    clear h h3 c hg
    go_enter Tryz.func129, Tryz.ntmps129
    go_wp2
    go_ret2
    exact Or.inl ⟨HC.out, rfl, rfl⟩
  · obtain ⟨bb, oo, rfl, hc⟩ := h3 (by omega)
    have HC := hide hc
    have hle2 : many ≤ m - a := by omega
    have HG : Hid (∀ k, k < many → g (a + k) = 0 ∨ g (a + k) = 1) := fun k hk => hg _ (by omega)
    have HVs := hide (fun k => valN_succ g a 0 k)
    have HVl : Hid (∀ k, k ≤ many → valN g a 0 k ≤ 3) := fun k hk => by
      have h9 := (valN_lt (g := g) (p := a) (v := 0) (k := k) (fun i hi => hg _ (by omega))).2
      have : 2 ^ k ≤ 2 ^ 2 := Nat.pow_le_pow_right (by omega) (by omega)
      omega
    have HV0 : Hid (valN g a 0 0 = 0) := rfl
    have HM : Hid (a + many ≤ m) := by unfold Hid; omega
    generalize valN g a 0 = V at *
    clear h hc hg h3 c
    go_enter Tryz.func129, Tryz.ntmps129
    go_wp2
    go_loop [6, 23] (fun u i => ∃ k : Nat, k ≤ many ∧ i = .int .i64 k ∧ u = .int .i64 (V k : Nat)) (fun _ i => many - (intOf i).toNat)
    case atStart => exact ⟨0, Nat.zero_le _, rfl, by rw [HV0.out]; rfl⟩
    case round =>
      obtain ⟨k, hkk, rfl, rfl⟩ := hrel
      by_cases hlt : k < many
      · have hcell := HC.out k (by omega)
        have hfb := HG.out k hlt
        have hS := HVs.out k
        have hV := HVl.out k (by omega)
        obtain ⟨z, hz, hz1⟩ : ∃ z : Nat, g (a + k) = (z : Nat) ∧ z ≤ 1 := ⟨(g (a + k)).toNat, by omega, by omega⟩
        rw [hz] at hcell hS
        rw [Int.toNat_natCast] at hS
        have HS := hide hS
        have f4 : bits .or .i64 (((V k : Nat) : Int) * 2) (z : Int) = ((2 * V k + z : Nat) : Int) := by
          have := i64_or_bit (V k) z hz1 (by omega)
          rw [← this]; congr 1; omega
        clear hfb hz hS
        generalize V k = x at *
        go_wp2
        go_round
        case rel => exact ⟨k + 1, by omega, by go_num, by rw [HS.out]; first | (simp; done) | (congr 1; omega)⟩
        case measure => simp [intOf]; omega
      · obtain rfl : k = many := by omega
        have hcp : k ≤ cap := by omega
        by_cases cE : cap = k
        · go_wp2
          go_ret2
          exact Or.inr ⟨HM.out, rfl, ⟨_, HR.out.cut (cut_end (by omega) (by unfold maxLen; omega)) HM.out (fun k e => e) ⟨_, _, _, rfl⟩⟩, (Kept.refl _ _).setCell _ _ (Or.inl rfl)⟩
        · go_wp2
          go_ret2
          exact Or.inr ⟨HM.out, rfl, ⟨_, HR.out.cut cut_mid HM.out (fun k e => e) ⟨_, _, _, rfl⟩⟩, (Kept.refl _ _).setCell _ _ (Or.inl rfl)⟩
end Go.Proofs.YtjhflcgphejddaaGreatDoor

namespace Go.Proofs.YtjhflcgphejddaaGreatDoor
open Go.RowKit
set_option linter.unusedVariables false
set_option maxRecDepth 100000

def bitOk (n : Int) : Bool := decide (n = 0) || decide (n = 1)
theorem bitOk_iff {n : Int} : bitOk n = true ↔ n = 0 ∨ n = 1 := by simp [bitOk]
theorem bitOk_not {n : Int} : bitOk n = false ↔ n ≠ 0 ∧ n ≠ 1 := by rw [← Bool.not_eq_true, bitOk_iff]; omega
/-- Whether each of the first is a bit. -/
def bitsOk (f : Nat → Int) : Nat → Bool
  | 0 => true
  | n + 1 => bitsOk f n && bitOk (f n)
theorem bitsOk_iff {f : Nat → Int} : ∀ {n}, bitsOk f n = true ↔ ∀ i, i < n → f i = 0 ∨ f i = 1
  | 0 => ⟨fun _ i hi => absurd hi (Nat.not_lt_zero _), fun _ => rfl⟩
  | n + 1 => by
    show (bitsOk f n && bitOk (f n)) = true ↔ _
    rw [Bool.and_eq_true, bitsOk_iff, bitOk_iff]
    constructor
    · intro h i hi
      by_cases c : i = n
      · subst c; exact h.2
      · exact h.1 i (by omega)
    · intro h
      exact ⟨fun i hi => h i (by omega), h n (by omega)⟩

theorem nbit_ok (n : Int) (w : World) : Calls Tryz.prog 163 #[.int .i64 n] w fun e w' => e = .returned (.bool (!bitOk n)) ∧ w = w' := by
  by_cases c : n = 0
  · subst c
    go_enter Tryz.func163, Tryz.ntmps163
    go_wp2
    go_ret
    exact ⟨rfl, rfl⟩
  · by_cases c2 : n = 1
    · subst c2
      clear c
      go_enter Tryz.func163, Tryz.ntmps163
      go_wp2
      go_ret
      exact ⟨rfl, rfl⟩
    · have HZ : Hid (bitOk n = false) := bitOk_not.2 ⟨c, c2⟩
      have h1 : (n != 0) = true := by simp [bne, c]
      have h2 : (n != 1) = true := by simp [bne, c2]
      have h3 : (n == 0) = false := by rw [beq_eq_false_iff_ne]; exact c
      have h4 : (n == 1) = false := by rw [beq_eq_false_iff_ne]; exact c2
      clear c c2
      go_enter Tryz.func163, Tryz.ntmps163
      go_wp2
      go_ret
      exact ⟨ret_bool (by rw [HZ.out]; rfl), rfl⟩

set_option maxHeartbeats 1000000 in
theorem bidx_ok {w : World} {v : Value} {n : Nat} {f : Nat → Int} (h : IntsIn w v n f) (hn : n ≤ 2000) :
    Calls Tryz.prog 131 #[v, .func (.func 163) #[] #[]] w fun e w' => ∃ i : Int, e = .returned (.int .i64 i) ∧ IsAt (fun j => !bitOk (f j)) n i ∧ w = w' := by
  rcases h with ⟨rfl, a, cap, rfl⟩ | ⟨h0, b, o, cap, rfl, hc⟩
  · go_enter Tryz.func131, Tryz.ntmps131
    go_wp2
    go_loop [8] (fun i => i = .int .i64 0) (fun _ => 0)
    case atStart => rfl
    case round =>
      obtain rfl := hrel
      go_wp2
      go_ret
      exact ⟨_, rfl, Or.inl ⟨rfl, fun j hj => absurd hj (Nat.not_lt_zero _)⟩, rfl⟩
  · have HC := hide hc
    clear hc
    go_enter Tryz.func131, Tryz.ntmps131
    go_wp2
    go_loop [5, 8] (fun _ i => ∃ j : Nat, j ≤ n ∧ i = .int .i64 j ∧ ∀ q, q < j → bitOk (f q) = true) (fun _ i => n - (intOf i).toNat)
    case atStart => exact ⟨0, Nat.zero_le _, rfl, fun q hq => absurd hq (Nat.not_lt_zero _)⟩
    case round =>
      obtain ⟨j, hj, rfl, hno⟩ := hrel
      have HN := hide hno
      clear hno
      by_cases hlt : j < n
      · have hc := HC.out j hlt
        have K := hide (nbit_ok (f j) w)
        generalize hx : f j = x at *
        have HX := hide hx
        clear hx
        cases hq : bitOk x with
        | false =>
          have HQ := hide hq
          rw [hq] at K
          clear hq
          go_wp2_with (go_at_call 163; refine (K.out).mono ?_; rintro e w1 ⟨rfl, rfl⟩)
          go_ret
          exact ⟨_, rfl, Or.inr ⟨j, rfl, hlt, by show (!bitOk (f j)) = true; rw [HX.out, HQ.out]; rfl⟩, rfl⟩
        | true =>
          have HQ := hide hq
          rw [hq] at K
          clear hq
          go_wp2_with (go_at_call 163; refine (K.out).mono ?_; rintro e w1 ⟨rfl, rfl⟩)
          go_round
          case rel =>
            refine ⟨j + 1, by omega, by go_num, fun q hq => ?_⟩
            by_cases c : q = j
            · rw [c, HX.out]; exact HQ.out
            · exact HN.out q (by omega)
          case measure => simp [intOf]; omega
      · obtain rfl : j = n := by omega
        go_wp2
        go_ret
        exact ⟨_, rfl, Or.inl ⟨rfl, fun q hq => by show (!bitOk (f q)) = false; rw [HN.out q hq]; rfl⟩, rfl⟩

theorem bcont_ok {w : World} {v : Value} {n : Nat} {f : Nat → Int} (h : IntsIn w v n f) (hn : n ≤ 2000) :
    Calls Tryz.prog 85 #[v, .func (.func 163) #[] #[]] w fun e w' => e = .returned (.bool (!bitsOk f n)) ∧ w = w' := by
  have K := hide (bidx_ok h hn)
  clear h
  go_enter Tryz.func85, Tryz.ntmps85
  go_wp2_with fail
  refine (K.out).mono ?_
  rintro e w1 ⟨i, rfl, hi, rfl⟩
  rcases hi with ⟨rfl, ha⟩ | ⟨j, rfl, hj, hq⟩
  · have e : bitsOk f n = true := bitsOk_iff.2 fun i hi => bitOk_iff.1 (by have := ha i hi; simpa using this)
    have HE := hide e
    clear e ha
    go_wp2
    go_ret
    exact ⟨ret_bool (by rw [HE.out]; rfl), rfl⟩
  · have e : bitsOk f n = false := by
      rw [← Bool.not_eq_true, bitsOk_iff]
      intro hall
      have h9 := bitOk_iff.2 (hall j hj)
      simp [h9] at hq
    have HE := hide e
    clear e hq
    go_wp2
    go_ret
    exact ⟨ret_bool (by rw [HE.out]; rfl), rfl⟩
end Go.Proofs.YtjhflcgphejddaaGreatDoor

namespace Go.Proofs.YtjhflcgphejddaaGreatDoor
open Go.RowKit
set_option linter.unusedVariables false
set_option maxRecDepth 100000

/-- Where the first nought is: -1 for none. -/
def idxN (f : Nat → Int) (n : Nat) : Int := if ones f 0 n < n then (ones f 0 n : Nat) else -1

set_option maxHeartbeats 1000000 in
theorem nought_ok {w : World} {v : Value} {n : Nat} {f : Nat → Int} (h : IntsIn w v n f) (hn : n ≤ 2000) :
    Calls Tryz.prog 146 #[v, .int .i64 0] w fun e w' => e = .returned (.int .i64 (idxN f n)) ∧ w = w' := by
  rcases h with ⟨rfl, a, cap, rfl⟩ | ⟨h0, b, o, cap, rfl, hc⟩
  · have HI : Hid (idxN f 0 = -1) := by unfold Hid idxN; rw [if_neg (by omega)]
    go_enter Tryz.func146, Tryz.ntmps146
    go_wp2
    go_loop [8] (fun i => i = .int .i64 0) (fun _ => 0)
    case atStart => rfl
    case round =>
      obtain rfl := hrel
      go_wp2
      go_ret
      exact ⟨ret_int (by rw [HI.out]), rfl⟩
  · have HC := hide hc
    clear hc
    go_enter Tryz.func146, Tryz.ntmps146
    go_wp2
    go_loop [8] (fun i => ∃ j : Nat, j ≤ n ∧ i = .int .i64 j ∧ ∀ q, q < j → f q ≠ 0) (fun i => n - (intOf i).toNat)
    case atStart => exact ⟨0, Nat.zero_le _, rfl, fun q hq => absurd hq (Nat.not_lt_zero _)⟩
    case round =>
      obtain ⟨j, hj, rfl, hno⟩ := hrel
      have HN := hide hno
      clear hno
      by_cases hlt : j < n
      · have hc := HC.out j hlt
        by_cases hq : f j = 0
        · have HI : Hid (idxN f n = (j : Nat)) := by
            have e : ones f 0 n = j := ones_eq (fun q hq => by rw [Nat.zero_add]; exact HN.out q hq) (fun _ => by rw [Nat.zero_add]; exact hq) hj
            unfold Hid idxN
            rw [e, if_pos hlt]
          rw [hq] at hc
          clear hq
          go_wp2
          go_ret
          exact ⟨ret_int (by rw [HI.out]), rfl⟩
        · have HQ := hide hq
          have hq1 : ((0 : Int) == f j) = false := by rw [beq_eq_false_iff_ne]; exact fun e => hq e.symm
          generalize hx : f j = x at *
          have HX := hide hx
          clear hx hq
          go_wp2
          go_round
          case rel =>
            refine ⟨j + 1, by omega, by go_num, fun q hq => ?_⟩
            by_cases c : q = j
            · rw [c, HX.out]; exact HQ.out
            · exact HN.out q (by omega)
          case measure => simp [intOf]; omega
      · obtain rfl : j = n := by omega
        have HI : Hid (idxN f j = -1) := by
          have e : ones f 0 j = j := ones_eq (fun q hq => by rw [Nat.zero_add]; exact HN.out q hq) (fun h => absurd h (by omega)) (Nat.le_refl _)
          unfold Hid idxN
          rw [e, if_neg (by omega)]
        go_wp2
        go_ret
        exact ⟨ret_int (by rw [HI.out]), rfl⟩

theorem number_ok (v : Nat) (w : World) (h : v ≤ 510) : Calls Tryz.prog 174 #[.int .i64 (v : Nat)] w fun e w' => e = .returned (.int .i64 (uz (v : Nat))) ∧ w = w' := by
  rcases Nat.mod_two_eq_zero_or_one v with c | c
  · obtain ⟨k, rfl⟩ : ∃ k, v = 2 * k := ⟨v / 2, by omega⟩
    have HU : Hid (uz ((2 * k : Nat) : Int) = (k : Nat)) := by unfold Hid uz; rw [if_neg (by omega)]; omega
    have e1 : (((2 * k : Nat) : Int)).tmod 2 = 0 := by rw [Int.tmod_eq_emod_of_nonneg (by omega)]; omega
    have e2 : (((2 * k : Nat) : Int)).tdiv 2 = (k : Nat) := by rw [Int.tdiv_eq_ediv_of_nonneg (by omega)]; omega
    have e3 : (((2 * k : Nat) : Int)) % 2 = 0 := by omega
    have e4 : (((2 * k : Nat) : Int)) / 2 = (k : Nat) := by omega
    have hx : ((2 * k : Nat) : Int) ≤ 510 ∧ (0 : Int) ≤ ((2 * k : Nat) : Int) := by omega
    generalize ((2 * k : Nat) : Int) = x at *
    obtain ⟨h1, h2⟩ := hx
    go_enter Tryz.func174, Tryz.ntmps174
    go_wp2
    go_ret
    exact ⟨ret_int (by rw [HU.out]), rfl⟩
  · obtain ⟨k, rfl⟩ : ∃ k, v = 2 * k + 1 := ⟨v / 2, by omega⟩
    have HU : Hid (uz ((2 * k + 1 : Nat) : Int) = -((k : Nat) : Int) - 1) := by unfold Hid uz; rw [if_pos (by omega)]; omega
    have e1 : (((2 * k + 1 : Nat) : Int)).tmod 2 = 1 := by rw [Int.tmod_eq_emod_of_nonneg (by omega)]; omega
    have e3 : (((2 * k + 1 : Nat) : Int)) % 2 = 1 := by omega
    have e2 : (-(((2 * k + 1 : Nat) : Int) + 1)).tdiv 2 = -((k : Nat) : Int) - 1 := by rw [Int.neg_tdiv, Int.tdiv_eq_ediv_of_nonneg (by omega)]; omega
    have hx : ((2 * k + 1 : Nat) : Int) ≤ 510 ∧ (0 : Int) ≤ ((2 * k + 1 : Nat) : Int) := by omega
    generalize ((2 * k + 1 : Nat) : Int) = x at *
    obtain ⟨h1, h2⟩ := hx
    go_enter Tryz.func174, Tryz.ntmps174
    go_wp2
    go_ret
    exact ⟨ret_int (by rw [HU.out]), rfl⟩
end Go.Proofs.YtjhflcgphejddaaGreatDoor

namespace Go.Proofs.YtjhflcgphejddaaGreatDoor
open Go.RowKit
set_option linter.unusedVariables false
set_option maxRecDepth 100000

theorem idxN_some {f : Nat → Int} {n q : Nat} (h : ones f 0 n = q) (hq : q < n) : idxN f n = (q : Nat) := by unfold idxN; rw [h, if_pos hq]
theorem idxN_none {f : Nat → Int} {n : Nat} (h : ¬ ones f 0 n < n) : idxN f n = -1 := by unfold idxN; rw [if_neg h]

set_option maxHeartbeats 2000000 in
/-- No number is told: no nought, or too few bits behind it. -/
theorem first_few {w : World} {v : Value} {m low : Nat} {f : Nat → Int} (h : SlI w v m f) (hm : m ≤ 2000) (hl : low ≤ 7) (hx : m < ones f 0 m + 1 + low) :
    Calls Tryz.prog 164 #[v, .int .i64 low] w fun e w' => e = .returned (.tuple #[.int .i64 0, .slice none 0 0, .bool false]) ∧ w = w' := by
  have K := hide (nought_ok h.ints hm)
  obtain ⟨ad, cap, rfl, h1, h2, h3⟩ := h
  clear h3
  by_cases c : ones f 0 m < m
  · generalize hq : ones f 0 m = q at *
    rw [idxN_some hq c] at K
    clear hq
    go_enter Tryz.func164, Tryz.ntmps164
    go_wp2_with fail
    refine (K.out).mono ?_
    rintro e w1 ⟨rfl, rfl⟩
    go_wp2
    go_ret3
    exact ⟨rfl, rfl⟩
  · rw [idxN_none c] at K
    clear c hx
    go_enter Tryz.func164, Tryz.ntmps164
    go_wp2_with fail
    refine (K.out).mono ?_
    rintro e w1 ⟨rfl, rfl⟩
    go_wp2
    go_ret3
    exact ⟨rfl, rfl⟩

set_option maxHeartbeats 4000000 in
/-- The bits of one: it is told, or is none. -/
theorem first_one {w : World} {v : Value} {m low q E X : Nat} {f : Nat → Int} (h : SlI w v m f) (hm : m ≤ 2000) (hl : low ≤ 7) (hf : ∀ i, i < m → f i = 0 ∨ f i = 1) (hq : ones f 0 m = q) (hE : E = q + 1 + low) (hx : E ≤ m) (hX : valN f (q + 1) q low = X) :
    Calls Tryz.prog 164 #[v, .int .i64 low] w fun e w' => (510 < X ∧ e = .returned (.tuple #[.int .i64 0, .slice none 0 0, .bool false]) ∧ Below w.heap.size w w') ∨ (X ≤ 510 ∧ ∃ sl, e = .returned (.tuple #[.int .i64 (uz (X : Nat)), sl, .bool true]) ∧ Cut v sl m E ∧ Below w.heap.size w w') := by
  have K := hide (nought_ok h.ints hm)
  rw [idxN_some hq (by omega)] at K
  obtain ⟨ad, cap, rfl, h1, h2, h3⟩ := h
  obtain ⟨b, o, rfl, hc⟩ := h3 (by omega)
  have KT := hide (fun w => told_ok 255 w (by omega))
  rw [show zz 255 = 510 from rfl] at KT
  have HC := hide hc
  have HF := hide hf
  have HVl := hide (fun k (hk : k ≤ low) => valN_lt (g := f) (p := q + 1) (v := q) (k := k) (fun i hi => hf _ (by omega)))
  have HVs := hide (fun k => valN_succ f (q + 1) q k)
  have hHX := hide hX
  have hp : ∀ k, k ≤ low → (q + 1) * 2 ^ k ≤ 256128 := fun k hk => by
    have e : 2 ^ k ≤ 2 ^ 7 := Nat.pow_le_pow_right (by omega) (by omega)
    exact Nat.le_trans (Nat.mul_le_mul (show q + 1 ≤ 2001 by omega) e) (by decide)
  have HV : Hid (∀ k, k ≤ low → valN f (q + 1) q k ≤ 256128) := fun k hk => by have := HVl.out k hk; have := hp k hk; omega
  have HV0 : Hid (valN f (q + 1) q 0 = q) := rfl
  have he : (q : Int) + 1 + (low : Int) = (E : Int) := by omega
  have he2 : E - (q + 1) = low := by omega
  have HE := hide hE
  have he3 : q + 1 ≤ E := by omega
  have hq0 : decide ((q : Int) < 0) = false := by simp
  generalize hVV : valN f (q + 1) q = V at *
  unfold maxLen at h2
  clear h3 hc hf hq hX hp hVV HVl hE
  go_enter Tryz.func164, Tryz.ntmps164
  go_wp2_with fail
  refine (K.out).mono ?_
  rintro e w1 ⟨rfl, rfl⟩
  go_upto_region 5 with fail
  go_cut [29, 30, 31] (fun s n i wx => ∃ (a : Option Addr) (c : Nat), s = .slice a low c ∧ n = .int .i64 low ∧ i = .int .i64 0 ∧ w = wx ∧ Hid (0 < low → a = some ⟨b, o + (q + 1), none⟩))
  case first =>
    by_cases c : cap = q + 1
    · have hl0 : low = 0 := by have := HE.out; omega
      subst hl0
      go_wp2
      go_meet
      exact ⟨_, _, rfl, rfl, rfl, rfl, fun h => absurd h (Nat.lt_irrefl _)⟩
    · go_wp2
      go_meet
      exact ⟨_, _, rfl, rfl, rfl, rfl, fun h => rfl⟩
  case rest =>
    obtain ⟨a, c, rfl, rfl, rfl, rfl, HA⟩ := hcut
    go_wp2
    go_loop [7, 31] (fun u i => ∃ k : Nat, k ≤ low ∧ i = .int .i64 k ∧ u = .int .i64 (V k : Nat)) (fun _ i => low - (intOf i).toNat)
    case atStart => exact ⟨0, Nat.zero_le _, rfl, by rw [HV0.out]⟩
    case round =>
      obtain ⟨k, hk, rfl, rfl⟩ := hrel
      by_cases hlt : k < low
      · obtain rfl := HA.out (by omega)
        have hcell := HC.out (q + 1 + k) (by omega)
        rw [← Nat.add_assoc] at hcell
        have hfb := HF.out (q + 1 + k) (by omega)
        have hS := HVs.out k
        have hV := HV.out k (by omega)
        obtain ⟨z, hz, hz1⟩ : ∃ z : Nat, f (q + 1 + k) = (z : Nat) ∧ z ≤ 1 := ⟨(f (q + 1 + k)).toNat, by omega, by omega⟩
        rw [hz] at hcell hS
        rw [Int.toNat_natCast] at hS
        have HS := hide hS
        have f4 : bits .or .i64 (((V k : Nat) : Int) * 2) (z : Int) = ((2 * V k + z : Nat) : Int) := by
          have := i64_or_bit (V k) z hz1 (by omega)
          rw [← this]; congr 1; omega
        clear hfb hz hS
        generalize V k = x at *
        go_wp2
        go_round
        case rel => exact ⟨k + 1, by omega, by go_num, by rw [HS.out]; first | (simp; done) | (congr 1; omega)⟩
        case measure => simp [intOf]; omega
      · obtain rfl : k = low := by omega
        have hXV := hHX.out
        rw [hXV]
        by_cases cX : 510 < X
        · go_wp2_with fail
          refine (KT.out _).mono ?_
          rintro e w2 ⟨rfl, rfl⟩
          go_wp2
          go_ret3
          exact Or.inl ⟨cX, rfl, Below.refl _ _⟩
        · have KN : Hid (∀ W, Calls Tryz.prog 174 #[.int .i64 (X : Nat)] W fun e w' => e = .returned (.int .i64 (uz (X : Nat))) ∧ w' = W) := fun W => (number_ok X W (by omega)).mono fun _ _ ⟨e1, e2⟩ => ⟨e1, e2.symm⟩
          have HXl : Hid (X ≤ 510) := hide (by omega)
          by_cases cE : cap = E
          · go_wp2_with fail
            refine (KT.out _).mono ?_
            rintro e w2 ⟨rfl, rfl⟩
            go_wp2_with fail
            go_quiet ((go_at_call 174; exact Calls.quiet_of_same (KN.out _)))
            go_wp2
            go_ret3
            refine Or.inr ⟨HXl.out, .slice (some ⟨b, o, none⟩) (m - E) 0, rfl, cut_end (by omega) (by unfold maxLen; omega), below_drewN (Below.refl _ _) _⟩
          · go_wp2_with fail
            refine (KT.out _).mono ?_
            rintro e w2 ⟨rfl, rfl⟩
            go_wp2_with fail
            go_quiet ((go_at_call 174; exact Calls.quiet_of_same (KN.out _)))
            go_wp2
            go_ret3
            refine Or.inr ⟨HXl.out, .slice (some ⟨b, o + E, none⟩) (m - E) (cap - E), rfl, cut_mid, below_drewN (Below.refl _ _) _⟩

/-- What is told by the bits at hand. -/
theorem first_ok {w : World} {v : Value} {m low : Nat} {f : Nat → Int} (h : SlI w v m f) (hm : m ≤ 2000) (hl : low ≤ 7) (hf : ∀ i, i < m → f i = 0 ∨ f i = 1) :
    Calls Tryz.prog 164 #[v, .int .i64 low] w fun e w' => (fstN f m low 0 = none ∧ e = .returned (.tuple #[.int .i64 0, .slice none 0 0, .bool false]) ∧ Below w.heap.size w w') ∨ (∃ n b sl, fstN f m low 0 = some (n, b) ∧ b ≤ m ∧ e = .returned (.tuple #[.int .i64 n, sl, .bool true]) ∧ Cut v sl m b ∧ Below w.heap.size w w') := by
  have hF : fstN f m low 0 = if ones f 0 m + 1 + low ≤ m then if valN f (ones f 0 m + 1) (ones f 0 m) low ≤ 510 then some (uz (valN f (ones f 0 m + 1) (ones f 0 m) low : Nat), ones f 0 m + 1 + low) else none else none := by
    unfold fstN
    simp only [Nat.sub_zero, Nat.zero_add]
  by_cases c : ones f 0 m + 1 + low ≤ m
  · rw [if_pos c] at hF
    refine (first_one h hm hl hf rfl rfl c rfl).mono ?_
    rintro e w' (⟨h1, he, hb⟩ | ⟨h1, sl, he, hs, hb⟩)
    · rw [if_neg (by omega)] at hF
      exact Or.inl ⟨hF, he, hb⟩
    · rw [if_pos h1] at hF
      exact Or.inr ⟨_, _, sl, hF, c, he, hs, hb⟩
  · rw [if_neg c] at hF
    refine (first_few h hm hl (by omega)).mono ?_
    rintro e w' ⟨he, hb⟩
    exact Or.inl ⟨hF, he, hb ▸ Below.refl _ _⟩
end Go.Proofs.YtjhflcgphejddaaGreatDoor
