/-
  Lemmas for the law above, joined into one text (KeptT, BmK, BmB, BmNb). No statement is proved here.
-/
import Derived.Test.YtjhflcgphejddaaDoorHG12
import Derived.Test.YtjhflcgphejddaaDoorHG8
import Derived.Test.YtjhflcgphejddaaDoorHG15
import Derived.Test.YtjhflcgphejddaaDoorHG6
import Derived.Test.YtjhflcgphejddaaDoorHG5
import Derived.Test.YtjhflcgphejddaaDoorHG7
namespace Go.Proofs.YtjhflcgphejddaaDoor
open Go.RowKit
set_option linter.unusedVariables false
set_option maxRecDepth 100000

theorem Kept.to_below {M : Nat → Prop} {w w' : World} (h : Kept M w w') {B : Nat} (hB : B ≤ w.heap.size) (hM : ∀ i, i < B → ¬ M i) : Below B w w' :=
  ⟨h.os, h.tape, h.output, h.size, fun i hi => h.block i (by omega) (hM i hi)⟩
theorem Kept.trans_ {M : Nat → Prop} {w w1 w2 : World} (h : Kept M w w1) (k : Kept M w1 w2) : Kept M w w2 :=
  ⟨k.os.trans h.os, k.tape.trans h.tape, k.output.trans h.output, Nat.le_trans h.size k.size, fun i hi hm => (k.block i (Nat.lt_of_lt_of_le hi h.size) hm).trans (h.block i hi hm)⟩
end Go.Proofs.YtjhflcgphejddaaDoor

namespace Go.Proofs.YtjhflcgphejddaaDoor
open Go.RowKit
set_option linter.unusedVariables false
set_option maxRecDepth 100000

theorem own_kept {w W : World} {B n e size rb : Nat} {v : Value} {xs : List Value} (h : w.ownsRow B e size v n xs) (hB : rb < B) (hk : Kept (fun i => i = rb) w W) : W.ownsRow B e size v n xs := by
  refine ⟨h.1, ?_⟩
  rcases h.2 with hn | ⟨g, cap, cur, hv, h1, hgg, rest⟩
  · exact .inl hn
  · exact .inr ⟨g, cap, cur, hv, h1, (hk.block g (Array.getElem?_eq_some_iff.1 hgg).1 (by omega)).trans hgg, rest⟩
theorem own_set {w : World} {B n e size : Nat} {v : Value} {xs : List Value} (h : w.ownsRow B e size v n xs) {b : Nat} (hb : b < B) (o : Nat) (u : Value) : (w.setCell ⟨b, o, none⟩ u).ownsRow B e size v n xs := by
  refine ⟨h.1, ?_⟩
  rcases h.2 with hn | ⟨g, cap, cur, hv, h1, hgg, rest⟩
  · exact .inl hn
  · refine .inr ⟨g, cap, cur, hv, h1, ?_, rest⟩
    rw [Below.heap_setCell _ _ _ _ (by show g ≠ b; omega)]
    exact hgg
theorem RowS.kept {w W : World} {B rb : Nat} {e : TypeId} {z : Nat} {v : Value} {N : Nat} {hd : Nat → List Value} {S : Nat → Value} {n : Nat → Nat} {f : Nat → Nat → Int} (h : RowS w B e z v N hd S n f) (hB : rb < B) (hk : Kept (fun i => i = rb) w W) : RowS W B e z v N hd S n f :=
  ⟨own_kept h.own hB hk, h.hl, fun i hi => ints_other (h.ints i hi) (fun h0 k e => hk.block k (ints_lt (h.ints i hi) h0 k e) (by have := h.new i hi h0 k e; omega)), h.new, h.off⟩
theorem CodR.kept {w W : World} {B rb : Nat} {v : Value} {N : Nat} {C : Nat → Cd} (h : CodR w B v N C) (hB : rb < B) (hk : Kept (fun i => i = rb) w W) : CodR W B v N C := by
  obtain ⟨S, h⟩ := h; exact ⟨S, h.kept hB hk⟩
theorem CodR.congr {w : World} {B : Nat} {v : Value} {N : Nat} {C D : Nat → Cd} (h : CodR w B v N C) (e : ∀ i, i < N → C i = D i) : CodR w B v N D := by
  obtain ⟨S, h⟩ := h
  exact ⟨S, h.congr (fun i hi => by unfold codH; rw [e i hi]) (fun _ _ => rfl) (fun i hi => by rw [e i hi]) (fun i hi => by rw [e i hi])⟩
theorem CodIn.kept {w W : World} {b rb : Nat} {al : Bool} {x y : Int} {s : Value} (h : CodIn w b al x y s) (hne : b ≠ rb) (hk : Kept (fun i => i = rb) w W) : CodIn W b al x y s := by
  have hb := hk.block b h.lt hne
  have hc : ∀ o, W.cell? ⟨b, o, none⟩ = w.cell? ⟨b, o, none⟩ := fun o => World.cell?_of_block (w := w) hb
  have hf : ∀ o, W.frozen? ⟨b, o, none⟩ = w.frozen? ⟨b, o, none⟩ := fun o => World.frozen?_of_block (w := w) hb
  exact ⟨(hc 0).trans h.c0, (hc 1).trans h.c1, (hc 2).trans h.c2, (hc 3).trans h.c3, (hf 0).trans h.g0, (hf 1).trans h.g1, (hf 2).trans h.g2, (hf 3).trans h.g3⟩
theorem CodIn.setX {w : World} {b : Nat} {al : Bool} {x y : Int} {s : Value} (h : CodIn w b al x y s) (u : Int) : CodIn (w.setCell ⟨b, 1, none⟩ (.int .i64 u)) b al u y s := by
  refine ⟨?_, World.cell?_setCell_same _ _ _ h.c1, ?_, ?_, by rw [World.frozen?_setCell]; exact h.g0, by rw [World.frozen?_setCell]; exact h.g1, by rw [World.frozen?_setCell]; exact h.g2, by rw [World.frozen?_setCell]; exact h.g3⟩
  · rw [World.cell?_setCell_other _ _ _ _ (fun e => by cases e)]; exact h.c0
  · rw [World.cell?_setCell_other _ _ _ _ (fun e => by cases e)]; exact h.c2
  · rw [World.cell?_setCell_other _ _ _ _ (fun e => by cases e)]; exact h.c3
theorem CodIn.setY {w : World} {b : Nat} {al : Bool} {x y : Int} {s : Value} (h : CodIn w b al x y s) (u : Int) : CodIn (w.setCell ⟨b, 2, none⟩ (.int .i64 u)) b al x u s := by
  refine ⟨?_, ?_, World.cell?_setCell_same _ _ _ h.c2, ?_, by rw [World.frozen?_setCell]; exact h.g0, by rw [World.frozen?_setCell]; exact h.g1, by rw [World.frozen?_setCell]; exact h.g2, by rw [World.frozen?_setCell]; exact h.g3⟩
  · rw [World.cell?_setCell_other _ _ _ _ (fun e => by cases e)]; exact h.c0
  · rw [World.cell?_setCell_other _ _ _ _ (fun e => by cases e)]; exact h.c1
  · rw [World.cell?_setCell_other _ _ _ _ (fun e => by cases e)]; exact h.c3
end Go.Proofs.YtjhflcgphejddaaDoor

namespace Go.Proofs.YtjhflcgphejddaaDoor
open Go.RowKit
set_option linter.unusedVariables false
set_option maxRecDepth 100000

/-- A reader: of these m bits, those from a on are left; they lie below Q. -/
structure RdB (w : World) (b Q : Nat) (g : Nat → Int) (m a : Nat) (v : Value) : Prop where
  c0 : w.cell? ⟨b, 0, none⟩ = some v
  f0 : w.frozen? ⟨b, 0, none⟩ = false
  sl : SlI w v (m - a) (fun i => g (a + i))
  ne : ∀ k, v.ownBlock = some k → k ≠ b
  lt : ∀ k, v.ownBlock = some k → k < Q
  le : a ≤ m
  fo : ∃ bb o cap, v = .slice (some ⟨bb, o, none⟩) (m - a) cap
theorem RdB.bl {w : World} {b Q m a : Nat} {g : Nat → Int} {v : Value} (h : RdB w b Q g m a v) : b < w.heap.size := cell_lt h.c0
theorem RdB.below {w w' : World} {b Q m a : Nat} {g : Nat → Int} {v : Value} (h : RdB w b Q g m a v) (hb : Below w.heap.size w w') : RdB w' b Q g m a v :=
  ⟨(hb.cell (p := ⟨b, 0, none⟩) h.bl).trans h.c0, (hb.frozen (p := ⟨b, 0, none⟩) h.bl).trans h.f0, h.sl.below hb, h.ne, h.lt, h.le, h.fo⟩
theorem SlI.kept {w W : World} {b n : Nat} {v : Value} {f : Nat → Int} (h : SlI w v n f) (hne : ∀ k, v.ownBlock = some k → k ≠ b) (hk : Kept (fun i => i = b) w W) : SlI W v n f := by
  obtain ⟨ad, cap, rfl, h1, h2, h3⟩ := h
  refine ⟨ad, cap, rfl, h1, h2, fun h0 => ?_⟩
  obtain ⟨bb, o, rfl, hc⟩ := h3 h0
  exact ⟨bb, o, rfl, fun i hi => by rw [World.cell?_of_block (w := w) (hk.block bb (cell_lt (hc i hi)) (hne bb rfl))]; exact hc i hi⟩
theorem SlI.mono {w W : World} {B n : Nat} {v : Value} {f : Nat → Int} (h : SlI w v n f) (hlt : ∀ k, v.ownBlock = some k → k < B) (hb : Below B w W) : SlI W v n f := by
  obtain ⟨ad, cap, rfl, h1, h2, h3⟩ := h
  refine ⟨ad, cap, rfl, h1, h2, fun h0 => ?_⟩
  obtain ⟨bb, o, rfl, hc⟩ := h3 h0
  exact ⟨bb, o, rfl, fun i hi => (hb.cell (p := ⟨bb, o + i, none⟩) (hlt bb rfl)).trans (hc i hi)⟩
/-- Where blocks below B are as they were, and the reader and its bits lie there, it is as it was. -/
theorem RdB.mono {w w' : World} {B b Q m a : Nat} {g : Nat → Int} {v : Value} (h : RdB w b Q g m a v) (hB : b < B) (hQ : Q ≤ B) (hb : Below B w w') : RdB w' b Q g m a v :=
  ⟨(hb.cell (p := ⟨b, 0, none⟩) hB).trans h.c0, (hb.frozen (p := ⟨b, 0, none⟩) hB).trans h.f0, h.sl.mono (fun k e => Nat.lt_of_lt_of_le (h.lt k e) hQ) hb, h.ne, h.lt, h.le, h.fo⟩
theorem RdB.other {w : World} {b Q b2 o m a : Nat} {g : Nat → Int} {v : Value} (h : RdB w b Q g m a v) (hne : b ≠ b2) (hQ : Q ≤ b2) (u : Value) : RdB (w.setCell ⟨b2, o, none⟩ u) b Q g m a v := by
  refine ⟨?_, by rw [World.frozen?_setCell]; exact h.f0, ?_, h.ne, h.lt, h.le, h.fo⟩
  · rw [World.cell?_setCell_other _ _ _ _ (fun e => hne (congrArg Addr.block e).symm)]; exact h.c0
  · exact h.sl.kept (b := b2) (fun k e => by have := h.lt k e; omega) ((Kept.refl _ w).setCell _ _ (Or.inl rfl))
/-- The reader goes on. -/
theorem RdB.cut {w : World} {b Q m a E : Nat} {g : Nat → Int} {v sl : Value} (h : RdB w b Q g m a v) (hc : Cut v sl (m - a) E) (hE : a + E ≤ m) (ho : ∀ k, sl.ownBlock = some k → v.ownBlock = some k) (hf : ∃ bb o cap, sl = .slice (some ⟨bb, o, none⟩) (m - a - E) cap) : RdB (w.setCell ⟨b, 0, none⟩ sl) b Q g m (a + E) sl := by
  have h1 := h.sl.kept h.ne ((Kept.refl _ w).setCell ⟨b, 0, none⟩ sl (Or.inl rfl))
  have h2 := hc _ _ h1
  refine ⟨World.cell?_setCell_same _ _ _ h.c0, by rw [World.frozen?_setCell]; exact h.f0, ?_, fun k e => h.ne k (ho k e), fun k e => h.lt k (ho k e), hE, by rw [show m - (a + E) = m - a - E by omega]; exact hf⟩
  rw [show m - (a + E) = m - a - E by omega]
  exact h2.congr (fun i _ => by show g (a + (E + i)) = g (a + E + i); rw [Nat.add_assoc])
theorem RdB.bits {w : World} {b Q m a : Nat} {g : Nat → Int} {v : Value} (h : RdB w b Q g m a v) (hg : ∀ i, i < m → g i = 0 ∨ g i = 1) : ∀ i, i < m - a → g (a + i) = 0 ∨ g (a + i) = 1 := fun i hi => hg _ (by have := h.le; omega)
/-- Of a slice its first E, if it has them. -/
theorem SlI.take {w : World} {m E b o cap : Nat} {f : Nat → Int} (h : SlI w (.slice (some ⟨b, o, none⟩) m cap) m f) (hE : E ≤ m) : SlI w (.slice (some ⟨b, o, none⟩) E cap) E f := by
  obtain ⟨ad, cap', e, h1, h2, h3⟩ := h
  cases e
  refine ⟨_, _, rfl, by omega, h2, fun h0 => ?_⟩
  obtain ⟨b', o', e', hc⟩ := h3 (by omega)
  exact ⟨b', o', e', fun i hi => hc i (by omega)⟩
end Go.Proofs.YtjhflcgphejddaaDoor

namespace Go.Proofs.YtjhflcgphejddaaDoor
open Go.RowKit
set_option linter.unusedVariables false
set_option maxRecDepth 100000

set_option maxHeartbeats 2000000 in
theorem bnum_ok {w : World} {b Q m a many : Nat} {v : Value} {g : Nat → Int} (h : RdB w b Q g m a v) (hm : m ≤ 2000) (hk : many ≤ 2) (hk1 : 1 ≤ many) (hg : ∀ i, i < m → g i = 0 ∨ g i = 1) :
    Calls Tryd.prog 63 #[.pointer (some ⟨b, 0, none⟩), .int .i64 many] w fun e w' => (m < a + many ∧ e = .returned (.tuple #[.int .i64 0, .bool false]) ∧ w = w') ∨ (a + many ≤ m ∧ ∃ v', e = .returned (.tuple #[.int .i64 (valN g a 0 many : Nat), .bool true]) ∧ RdB w' b Q g m (a + many) v' ∧ Kept (fun i => i = b) w w') := by
  have HR := hide h
  have hle := h.le
  obtain ⟨ad, cap, rfl, h1, h2, h3⟩ := h.sl
  have c0 := h.c0
  have f0 := h.f0
  unfold maxLen at h2
  by_cases c : m < a + many
  · have hlt : m - a < many := by omega
    have HC := hide c
    clear h h3 c hg
    go_enter Tryd.func63, Tryd.ntmps63
    go_wp2
    go_ret2
    exact Or.inl ⟨HC.out, rfl, rfl⟩
  · obtain ⟨bb, oo, rfl, hc⟩ := h3 (by omega)
    have HC := hide hc
    have hle2 : many ≤ m - a := by omega
    have HG : Hid (∀ k, k < many → g (a + k) = 0 ∨ g (a + k) = 1) := fun k hk => hg _ (by omega)
    have HVs := hide (fun k => valN_succ g a 0 k)
    have HVl : Hid (∀ k, k ≤ many → valN g a 0 k ≤ 3) := fun k hk => by
      have h9 := (valN_lt (g := g) (p := a) (v := 0) (k := k) (fun i hi => hg _ (by omega))).2
      have : 2 ^ k ≤ 2 ^ 2 := Nat.pow_le_pow_right (by omega) (by omega)
      omega
    have HV0 : Hid (valN g a 0 0 = 0) := rfl
    have HM : Hid (a + many ≤ m) := by unfold Hid; omega
    generalize valN g a 0 = V at *
    clear h hc hg h3 c
    go_enter Tryd.func63, Tryd.ntmps63
    go_wp2
    go_loop [6, 23] (fun u i => ∃ k : Nat, k ≤ many ∧ i = .int .i64 k ∧ u = .int .i64 (V k : Nat)) (fun _ i => many - (intOf i).toNat)
    case atStart => exact ⟨0, Nat.zero_le _, rfl, by rw [HV0.out]; rfl⟩
    case round =>
      obtain ⟨k, hkk, rfl, rfl⟩ := hrel
      by_cases hlt : k < many
      · have hcell := HC.out k (by omega)
        have hfb := HG.out k hlt
        have hS := HVs.out k
        have hV := HVl.out k (by omega)
        obtain ⟨z, hz, hz1⟩ : ∃ z : Nat, g (a + k) = (z : Nat) ∧ z ≤ 1 := ⟨(g (a + k)).toNat, by omega, by omega⟩
        rw [hz] at hcell hS
        rw [Int.toNat_natCast] at hS
        have HS := hide hS
        have f4 : bits .or .i64 (((V k : Nat) : Int) * 2) (z : Int) = ((2 * V k + z : Nat) : Int) := by
          have := i64_or_bit (V k) z hz1 (by omega)
          rw [← this]; congr 1; omega
        clear hfb hz hS
        generalize V k = x at *
        go_wp2
        go_round
        case rel => exact ⟨k + 1, by omega, by go_num, by rw [HS.out]; first | (simp; done) | (congr 1; omega)⟩
        case measure => simp [intOf]; omega
      · obtain rfl : k = many := by omega
        have hcp : k ≤ cap := by omega
        by_cases cE : cap = k
        · go_wp2
          go_ret2
          exact Or.inr ⟨HM.out, rfl, ⟨_, HR.out.cut (cut_end (by omega) (by unfold maxLen; omega)) HM.out (fun k e => e) ⟨_, _, _, rfl⟩⟩, (Kept.refl _ _).setCell _ _ (Or.inl rfl)⟩
        · go_wp2
          go_ret2
          exact Or.inr ⟨HM.out, rfl, ⟨_, HR.out.cut cut_mid HM.out (fun k e => e) ⟨_, _, _, rfl⟩⟩, (Kept.refl _ _).setCell _ _ (Or.inl rfl)⟩
end Go.Proofs.YtjhflcgphejddaaDoor
