/-
  Lemmas for the law above, joined into one text (TopOne, AirN). No statement is proved here.
-/
import Derived.Test.YtjgifjkdgoijmaaGreatWG33
import Derived.Test.YtjgifjkdgoijmaaGreatWG5
namespace Go.Proofs.YtjgifjkdgoijmaaGreat
open Go.RowKit Go.Maps
set_option linter.unusedVariables false
set_option maxRecDepth 100000

/-- The Ear is told by a pointer. -/
theorem ESt.ptr {I : PIm0} {w : World} {v : Value} {k z n : Nat} {dr : Int} {F : List Drp} {M : Nat → Prop} (h : ESt I w v k z n dr F M) : ∃ a, v = .pointer a := by
  obtain ⟨b, _, _, _, rfl, _⟩ := h
  exact ⟨_, rfl⟩
theorem wrap_rng (x : Int) : -9223372036854775808 ≤ wrap64 x ∧ wrap64 x ≤ 9223372036854775807 := by unfold wrap64; omega
theorem o_new (w : World) : Calls Tryz.prog 9 #[.int .i64 1, .int .i64 1, .int .i64 1] w fun e w' => ∃ a M, e = .returned (.tuple #[.pointer a, .nilIface]) ∧ ESt peelI0 w' (.pointer a) 1 1 1 0 [] M ∧ (∀ i, M i → w.heap.size ≤ i) ∧ Below w.heap.size w w' :=
  (enew_ok 1 1 1 w (by decide) (by decide) (by decide)).mono fun e w' ⟨v, M, he, hE, hM, hb⟩ => by
    obtain ⟨a, rfl⟩ := hE.ptr
    exact ⟨a, M, he, hE, hM, hb⟩
theorem o_hear {w0 w : World} {a : Option Addr} {M : Nat → Prop} (h : ESt peelI0 w (.pointer a) 1 1 1 0 [] M) (hb : Below w0.heap.size w0 w) (hM : ∀ i, M i → w0.heap.size ≤ i) :
    Calls Tryz.prog 14 #[.pointer a, .agg #[.int .i64 1, .string ⟨#[122]⟩]] w fun e w' => ∃ M', e = .returned (.tuple #[.agg #[.int .i64 1, .int .i64 1, .int .i64 1], .nilIface]) ∧ ESt peelI0 w' (.pointer a) 1 1 1 1 [(1, ⟨#[122]⟩)] M' ∧ Below w0.heap.size w0 w' := by
  refine (hear_from peel_ptr h hb hM 1 ⟨#[122]⟩ (eF_made h.ok (by decide) (by rfl) (by decide)) (by decide)).mono fun e w' ⟨q, M', hT, he, hE, hM', hb', _, _⟩ => ?_
  rw [eAdd_out _ (by simp [sds]), List.nil_append] at hT he hE
  have hw : wrap64 ((0 : Int) + 1) = 1 := by unfold wrap64; omega
  rw [hw] at he hE
  rw [knows_one hT] at he
  exact ⟨M', he, hE, hb'⟩
theorem o_data {w : World} {a : Option Addr} {M : Nat → Prop} (h : ESt peelI0 w (.pointer a) 1 1 1 1 [(1, ⟨#[122]⟩)] M) :
    Calls Tryz.prog 16 #[.pointer a] w fun e w' => e = .returned (.tuple #[.string ⟨#[122]⟩, .nilIface]) ∧ Below w.heap.size w w' :=
  (data_ok h).mono fun e w' ⟨x, s, he, hd, hb⟩ => by
    obtain ⟨rfl, rfl⟩ := one_fact (t := ⟨#[122]⟩) h.ok rfl hd
    exact ⟨he, hb⟩
theorem o_done {w : World} {a : Option Addr} {M : Nat → Prop} (h : ESt peelI0 w (.pointer a) 1 1 1 1 [(1, ⟨#[122]⟩)] M) :
    Calls Tryz.prog 17 #[.pointer a] w fun e w' => e = .returned (.bool true) ∧ Below w.heap.size w w' :=
  (done_ok h).mono fun e w' ⟨he, hb⟩ => by
    have hr : rkL (mS 1 (sds [(1, ByteArray.mk #[122])])) = 1 := rk_one (mask_some ⟨by omega, by omega⟩ ⟨by omega, by omega⟩)
    rw [hr] at he
    exact ⟨he, hb⟩
set_option maxHeartbeats 2000000 in
theorem one_true (w : World) : Calls Tryz.prog 5 #[] w fun e w' => e = .returned (.bool true) ∧ Below w.heap.size w w' := by
  have N := hide (o_new w)
  have HH := hide (fun w1 a M h hb hM => o_hear (w0 := w) (w := w1) (a := a) (M := M) h hb hM)
  have HDT := hide (fun w1 a M h => o_data (w := w1) (a := a) (M := M) h)
  have HDN := hide (fun w1 a M h => o_done (w := w1) (a := a) (M := M) h)
  go_enter Tryz.func5, Tryz.ntmps5
  go_wp2_with fail
  refine (N.out).mono ?_
  rintro e w1 ⟨a1, M1, rfl, hE1, hM1, hb1⟩
  have H1 := hide (HH.out w1 a1 M1 hE1 hb1 hM1)
  clear hE1 hM1 hb1 N HH
  go_wp2_with fail
  refine (H1.out).mono ?_
  rintro e w2 ⟨M2, rfl, hE2, hb2⟩
  have HE2 := hide (hE2.below ((Below.refl _ w2).alloc (Nat.le_refl _) (.cells #[.int .i64 1, .int .i64 1, .int .i64 1] 44)))
  have HB2 := hide (hb2.alloc hb2.size (.cells #[.int .i64 1, .int .i64 1, .int .i64 1] 44))
  have D2 := hide (HDT.out _ a1 M2 HE2.out)
  clear hE2 hb2 H1
  go_wp2_with fail
  refine (D2.out).mono ?_
  rintro e w3 ⟨rfl, hb3⟩
  have HB3 := hide (below_two HB2.out hb3)
  have N3 := hide (HDN.out w3 a1 M2 (HE2.out.below hb3))
  clear hb3 D2 HE2 HDT HDN
  go_wp2_with fail
  refine (N3.out).mono ?_
  rintro e w4 ⟨rfl, hb4⟩
  have HB4 := hide (below_two HB3.out hb4)
  clear hb4
  go_wp2
  go_ret
  exact ⟨by first | rfl | simp, HB4.out⟩
end Go.Proofs.YtjgifjkdgoijmaaGreat

namespace Go.Proofs.YtjgifjkdgoijmaaGreat
open Go.RowKit Go.Maps
set_option linter.unusedVariables false
set_option maxRecDepth 100000

/-- Block b holds a slice v of the drops X. -/
structure AQ (w : World) (base b : Nat) (v : Value) (X : List Drp) : Prop where
  cell : w.cell? ⟨b, 0, none⟩ = some v
  frz : w.frozen? ⟨b, 0, none⟩ = false
  row : w.ownsRow base 37 2 v X.length (dC X)
  ap : v.ownBlock ≠ some b
  inb : base ≤ b
  few : X.length ≤ 60
  good : ∀ d ∈ X, 1 ≤ d.1 ∧ d.1 ≤ 10000 ∧ 1 ≤ d.2.size ∧ d.2.size ≤ 8
/-- Its blocks. -/
def AF (b : Nat) (v : Value) (i : Nat) : Prop := i = b ∨ v.ownBlock = some i
theorem AQ.lt {w : World} {base b : Nat} {v : Value} {X : List Drp} (h : AQ w base b v X) : ∀ i, AF b v i → base ≤ i ∧ i < w.heap.size := fun i hi => by
  rcases hi with rfl | e
  · exact ⟨h.inb, cell_lt h.cell⟩
  · exact h.row.lt i e
theorem AQ.keep {w w' : World} {base b : Nat} {v : Value} {X : List Drp} (h : AQ w base b v X) (hb : ∀ i, AF b v i → w'.heap[i]? = w.heap[i]?) : AQ w' base b v X :=
  ⟨(World.cell?_of_block (w := w) (hb b (Or.inl rfl))).trans h.cell, (World.frozen?_of_block (w := w) (hb b (Or.inl rfl))).trans h.frz, own_blk h.row fun i e => hb i (Or.inr e), h.ap, h.inb, h.few, h.good⟩
theorem AQ.below {w w' : World} {base b : Nat} {v : Value} {X : List Drp} (h : AQ w base b v X) (hb : Below w.heap.size w w') : AQ w' base b v X := h.keep fun i hi => hb.block i (h.lt i hi).2
theorem AQ.kept {M : Nat → Prop} {w w' : World} {base b : Nat} {v : Value} {X : List Drp} (h : AQ w base b v X) (hk : Kept M w w') (hm : ∀ i, AF b v i → ¬ M i) : AQ w' base b v X := h.keep fun i hi => hk.block i (h.lt i hi).2 (hm i hi)
/-- What a method leaves: these drops; nothing else is turned. -/
def Moved (w : World) (base b : Nat) (v : Value) (X' : List Drp) (w' : World) : Prop :=
  ∃ v', AQ w' base b v' X' ∧ Kept (AF b v) w w' ∧ ∀ i, v'.ownBlock = some i → v.ownBlock = some i ∨ w.heap.size ≤ i
theorem Moved.same {w w' : World} {base b : Nat} {v : Value} {X : List Drp} (h : AQ w base b v X) (hb : Below w.heap.size w w') : Moved w base b v X w' :=
  ⟨v, h.below hb, (Kept.refl _ w).below hb, fun i e => Or.inl e⟩
theorem Moved.below {w w1 w' : World} {base b : Nat} {v : Value} {X : List Drp} (h : Moved w base b v X w1) (hb : Below w1.heap.size w1 w') : Moved w base b v X w' := by
  obtain ⟨v', h1, h2, h3⟩ := h
  exact ⟨v', h1.below hb, h2.below hb, h3⟩
theorem Moved.behind {w w1 w' : World} {base b : Nat} {v : Value} {X : List Drp} (hb : Below w.heap.size w w1) (hl : b < w.heap.size) (hv : ∀ i, v.ownBlock = some i → i < w.heap.size) (h : Moved w1 base b v X w') : Moved w base b v X w' := by
  obtain ⟨v', h1, h2, h3⟩ := h
  refine ⟨v', h1, ((Kept.refl _ w).below hb).trans h2 fun i _ e => e, fun i e => ?_⟩
  rcases h3 i e with h9 | h9
  · exact Or.inl h9
  · exact Or.inr (Nat.le_trans hb.size h9)
/-- The slice's row is turned, or lies anew; then the slice is stored. -/
theorem AQ.store {w w1 : World} {base b : Nat} {v v1 : Value} {X X' : List Drp} (h : AQ w base b v X) (hk : Kept (fun i => v.ownBlock = some i) w w1) (ho : w1.ownsRow base 37 2 v1 X'.length (dC X'))
    (hat : ∀ i, v1.ownBlock = some i → v.ownBlock = some i ∨ w.heap.size ≤ i) (hf : X'.length ≤ 60) (hg : ∀ d ∈ X', 1 ≤ d.1 ∧ d.1 ≤ 10000 ∧ 1 ≤ d.2.size ∧ d.2.size ≤ 8) : Moved w base b v X' (w1.setCell ⟨b, 0, none⟩ v1) := by
  have hbl := (h.lt b (Or.inl rfl)).2
  have hb1 : w1.heap[b]? = w.heap[b]? := hk.block b hbl h.ap
  have hn : v1.ownBlock ≠ some b := fun e => by
    rcases hat b e with h9 | h9
    · exact h.ap h9
    · omega
  refine ⟨v1, ⟨World.cell?_setCell_same _ _ _ ((World.cell?_of_block (w := w) hb1).trans h.cell), ?_, own_set ho hn, hn, h.inb, hf, hg⟩, (hk.mono fun i e => Or.inr e).setCell _ _ (Or.inl (Or.inl rfl)), hat⟩
  rw [frozen_set]
  exact (World.frozen?_of_block (w := w) hb1).trans h.frz
/-- What is in the air at block b, in a world above w0. -/
def AirAt (w0 w : World) (b : Nat) (X : List Drp) : Prop := ∃ v, AQ w w0.heap.size b v X ∧ Below w0.heap.size w0 w
theorem Moved.at {w0 w w' : World} {b : Nat} {v : Value} {X X' : List Drp} (h : AQ w w0.heap.size b v X) (hb : Below w0.heap.size w0 w) (hm : Moved w w0.heap.size b v X' w') : AirAt w0 w' b X' := by
  obtain ⟨v', h1, h2, _⟩ := hm
  exact ⟨v', h1, kept_below hb h2 fun i hi => (h.lt i hi).1⟩
theorem AirAt.below {w0 w w' : World} {b : Nat} {X : List Drp} (h : AirAt w0 w b X) (hb : Below w.heap.size w w') : AirAt w0 w' b X := by
  obtain ⟨v, h1, h2⟩ := h
  exact ⟨v, h1.below hb, below_two h2 hb⟩
/-- The fault of a drop that is sent. -/
def aF (n : Nat) (s : Int) (z : Nat) : Nat := if s < 1 ∨ 10000 < s then 1 else if z < 1 ∨ 8 < z then 3 else if 60 ≤ n then 4 else 0
/-- What is there behind it. -/
def aPut (X : List Drp) (s : Int) (d : ByteArray) : List Drp := if aF X.length s d.size = 0 then X ++ [(s.toNat, d)] else X
theorem aF_ok {n : Nat} {s : Int} {z : Nat} (h : aF n s z = 0) : 1 ≤ s ∧ s ≤ 10000 ∧ 1 ≤ z ∧ z ≤ 8 ∧ n < 60 := by
  unfold aF at h
  split at h
  · cases h
  · split at h
    · cases h
    · split at h
      · cases h
      · omega
theorem own_slice2 {w : World} {B e size n : Nat} {v : Value} {xs : List Value} (h : w.ownsRow B e size v n xs) : ∃ a cap, v = .slice a n cap ∧ n ≤ cap ∧ cap ≤ maxLen := by
  rcases h.2 with ⟨hv, h0⟩ | ⟨g, cap, cur, hv, _, hg, h1, h2, _⟩
  · exact ⟨none, 0, by rw [h0]; exact hv, by omega, by unfold maxLen; omega⟩
  · exact ⟨_, cap, hv, h1, h2⟩
theorem aF_of_good {n : Nat} {d : Drp} (h : 1 ≤ d.1 ∧ d.1 ≤ 10000 ∧ 1 ≤ d.2.size ∧ d.2.size ≤ 8) : aF n (d.1 : Nat) d.2.size = if 60 ≤ n then 4 else 0 := by
  unfold aF
  rw [if_neg (by omega), if_neg (by omega)]
/-- The error that a fault stands for. -/
def aErr (f : Nat) : Value := if f = 0 then .nilIface else .iface 54 (.int .i64 f)
end Go.Proofs.YtjgifjkdgoijmaaGreat
