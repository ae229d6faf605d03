/-
  Lemmas for the law above, joined into one text (EarHear). No statement is proved here.
-/
import Derived.Test.YtjgifjkdgoijmaaGreatEG26
import Derived.Test.YtjgifjkdgoijmaaGreatEG16
import Derived.Deep.RegionLaw
import Derived.Deep.RegionHeld3
import Derived.Deep.DrawnRows
import Derived.Deep.DeepCutAuto
namespace Go.Proofs.YtjgifjkdgoijmaaGreat
open Go.RowKit Go.Maps
set_option linter.unusedVariables false
set_option maxRecDepth 100000

/-- What a Peeler's method leaves, seen from an earlier world. -/
theorem lift_take {I : PIm0} {w w1 w' : World} {vP : Value} {k z : Nat} {p : PS} {T : List Nat} (h : I.St w vP k z p T) (hb : Below w.heap.size w w1) (hk : Kept (I.foot w1 vP) w1 w') (hf : ∀ i, I.foot w' vP i → I.foot w1 vP i ∨ w1.heap.size ≤ i) :
    Kept (I.foot w vP) w w' ∧ ∀ i, I.foot w' vP i → I.foot w vP i ∨ w.heap.size ≤ i := by
  have h1 := I.below h hb
  exact ⟨((Kept.refl _ w).below hb).trans hk fun i _ e => h1.2 i e, fun i hi => (hf i hi).imp (h1.2 i) fun e => Nat.le_trans hb.size e⟩
set_option maxHeartbeats 1000000 in
theorem eknows_ok {I : PIm0} {w : World} {vP : Value} {k z : Nat} {p : PS} {T : List Nat} (h : I.St w vP k z p T) (hp : ∃ a, vP = .pointer a) :
    Calls Tryz.prog 38 #[.agg #[vP]] w fun e w' => e = .returned (.int .i64 (knows k p.known).length) ∧ Below w.heap.size w w' := by
  have hb0 : Below w.heap.size w (w.alloc (.cells #[vP] 68)) := (Below.refl _ _).alloc (Nat.le_refl _) _
  have K := hide (I.knows_ok (I.below h hb0).1)
  have HB := hide hb0
  obtain ⟨a, rfl⟩ := hp
  clear h hb0
  go_enter Tryz.func38, Tryz.ntmps38
  go_wp2_with fail
  refine (K.out).mono ?_
  rintro e w1 ⟨v, rfl, ⟨a1, c1, rfl, hl1, hl2, _⟩, hb1⟩
  have HB1 := hide (below_two HB.out hb1)
  unfold maxLen at hl2
  clear hb1 K
  go_wp2
  go_ret
  exact ⟨rfl, HB1.out⟩
set_option maxHeartbeats 1000000 in
theorem etake_ok {I : PIm0} {w : World} {vP : Value} {k z : Nat} {p : PS} {T : List Nat} (h : I.St w vP k z p T) (hp : ∃ a, vP = .pointer a) (seed : Nat) (data : ByteArray) (ht : tF k z T seed data.size = 0) :
    Calls Tryz.prog 36 #[.agg #[vP], dropV seed data] w fun e w' => ∃ q, e = .returned .nilIface ∧ Peels (setL k) ⟨p.known, p.B, p.L ++ [(seed, data)]⟩ q ∧ I.St w' vP k z q (T ++ [seed]) ∧ Kept (I.foot w vP) w w' ∧ ∀ i, I.foot w' vP i → I.foot w vP i ∨ w.heap.size ≤ i := by
  have hb1 : Below w.heap.size w (w.alloc (.cells #[vP] 68)) := (Below.refl _ _).alloc (Nat.le_refl _) _
  have hb0 : Below w.heap.size w ((w.alloc (.cells #[vP] 68)).alloc (.cells #[.int .i64 seed, .string data] 37)) := hb1.alloc hb1.size _
  have K := hide (I.take_ok (I.below h hb0).1 seed data ht)
  have L := hide (fun w' => lift_take (w' := w') h hb0)
  obtain ⟨a, rfl⟩ := hp
  clear h hb0 hb1
  unfold dropV at *
  go_enter Tryz.func36, Tryz.ntmps36
  go_wp2_with fail
  refine (K.out).mono ?_
  rintro e w1 ⟨v, q, rfl, hp, ⟨a1, c1, rfl, _, _, _⟩, hs, hk, hf⟩
  obtain ⟨h1, h2⟩ := L.out w1 hk hf
  have HP := hide hp
  have HS := hide hs
  have H1 := hide h1
  have H2 := hide h2
  clear hp hs hk hf h1 h2 K L
  go_wp2
  go_ret
  exact ⟨q, rfl, HP.out, HS.out, H1.out, H2.out⟩
/-- An Ear, and blocks that are none of it. -/
structure EN (I : PIm0) (M : Nat → Prop) (w0 w : World) (b : Nat) (vP vF : Value) (k z n : Nat) (dr : Int) (p : PS) (T : List Nat) (F : List Drp) (N : List Nat) : Prop where
  ek : EK I M w0 w b vP vF k z n dr p T F
  off : ∀ q ∈ N, w0.heap.size ≤ q ∧ q < w.heap.size ∧ q ≠ b ∧ ¬ I.foot w vP q ∧ vF.ownBlock ≠ some q
variable {I : PIm0} {M : Nat → Prop} {w0 w w' : World} {b : Nat} {vP vF : Value} {k z n : Nat} {dr : Int} {p q : PS} {T T' : List Nat} {F F' : List Drp} {N : List Nat}
theorem EN.below (h : EN I M w0 w b vP vF k z n dr p T F N) (hb : Below w.heap.size w w') : EN I M w0 w' b vP vF k z n dr p T F N :=
  ⟨h.ek.below hb, fun x hx => by
    obtain ⟨h0, h1, h2, h3, h4⟩ := h.off x hx
    exact ⟨h0, Nat.lt_of_lt_of_le h1 hb.size, h2, fun hf => h3 ((I.below h.ek.st hb).2 x hf), h4⟩⟩
theorem EN.take (h : EN I M w0 w b vP vF k z n dr p T F N) (hs : I.St w' vP k z q T') (hk : Kept (I.foot w vP) w w') (hf : ∀ i, I.foot w' vP i → I.foot w vP i ∨ w.heap.size ≤ i) : EN I M w0 w' b vP vF k z n dr q T' F N ∧ ∀ x ∈ N, w'.heap[x]? = w.heap[x]? := by
  refine ⟨⟨h.ek.take hs hk hf, fun x hx => ?_⟩, fun x hx => ?_⟩
  · obtain ⟨h0, h1, h2, h3, h4⟩ := h.off x hx
    exact ⟨h0, Nat.lt_of_lt_of_le h1 hk.size, h2, fun h9 => (hf x h9).elim h3 fun e => by omega, h4⟩
  · obtain ⟨h0, h1, h2, h3, h4⟩ := h.off x hx
    exact hk.block x h1 h3
theorem EN.tick (h : EN I M w0 w b vP vF k z n dr p T F N) (m : Int) : EN I M w0 (w.setCell ⟨b, 4, none⟩ (.int .i64 m)) b vP vF k z n m p T F N := by
  have hh : ∀ i, i ≠ b → (w.setCell ⟨b, 4, none⟩ (.int .i64 m)).heap[i]? = w.heap[i]? := fun i hi => Below.heap_setCell w ⟨b, 4, none⟩ _ i hi
  have hsz : w.heap.size ≤ (w.setCell ⟨b, 4, none⟩ (.int .i64 m)).heap.size := (show Below 0 w (w.setCell ⟨b, 4, none⟩ (.int .i64 m)) from (Below.refl 0 w).setCell (Nat.zero_le _) _).size
  have h9 := I.keep h.ek.st hsz fun i hi => hh i fun e => h.ek.apP (e ▸ hi)
  exact ⟨h.ek.tick m, fun x hx => by
    obtain ⟨h0, h1, h2, h3, h4⟩ := h.off x hx
    exact ⟨h0, Nat.lt_of_lt_of_le h1 hsz, h2, fun hf => h3 (h9.2 x hf), h4⟩⟩
theorem EN.push {w1 : World} {v1 : Value} (h : EN I M w0 w b vP vF k z n dr p T F N) (hg : w.grownBy w1 vF.ownBlock) (ho : w1.ownsRow 0 37 2 v1 F'.length (dC F')) (hat : v1.ownBlock = vF.ownBlock ∨ ∃ i, v1.ownBlock = some i ∧ w.heap.size ≤ i) : EN I M w0 (w1.setCell ⟨b, 5, none⟩ v1) b vP v1 k z n dr p T F' N := by
  have hh : ∀ i, i ≠ b → (w1.setCell ⟨b, 5, none⟩ v1).heap[i]? = w1.heap[i]? := fun i hi => Below.heap_setCell w1 ⟨b, 5, none⟩ v1 i hi
  have hsz : w1.heap.size ≤ (w1.setCell ⟨b, 5, none⟩ v1).heap.size := (show Below 0 w1 (w1.setCell ⟨b, 5, none⟩ v1) from (Below.refl 0 w1).setCell (Nat.zero_le _) _).size
  have h9 := I.keep h.ek.st (Nat.le_trans hg.size hsz) fun i hi => (hh i fun e => h.ek.apP (e ▸ hi)).trans (hg.block i (I.foot_lt h.ek.st i hi) fun e => h.ek.ap i e.symm hi)
  exact ⟨h.ek.push hg ho hat, fun x hx => by
    obtain ⟨h0, h1, h2, h3, h4⟩ := h.off x hx
    refine ⟨h0, Nat.lt_of_lt_of_le h1 (Nat.le_trans hg.size hsz), h2, fun hf => h3 (h9.2 x hf), fun e => ?_⟩
    rcases hat with e2 | ⟨j, e2, hj⟩
    · exact h4 (e2 ▸ e)
    · rw [e] at e2; cases e2; omega⟩
/-- One of the other blocks is written. -/
theorem EN.poke (h : EN I M w0 w b vP vF k z n dr p T F N) {a : Addr} (ha : a.block ∈ N) (u : Value) : EN I M w0 (w.setCell a u) b vP vF k z n dr p T F N := by
  obtain ⟨h0, h1, h2, h3, h4⟩ := h.off _ ha
  have hh : ∀ i, i ≠ a.block → (w.setCell a u).heap[i]? = w.heap[i]? := fun i hi => Below.heap_setCell w a u i hi
  have hsz : w.heap.size ≤ (w.setCell a u).heap.size := (show Below 0 w (w.setCell a u) from (Below.refl 0 w).setCell (Nat.zero_le _) _).size
  have h9 := I.keep h.ek.st hsz fun i hi => hh i fun e => h3 (e ▸ hi)
  refine ⟨h.ek.keep (h.ek.kept.setCell _ _ (Or.inr h0)) hsz (hh b (Ne.symm h2)) (fun i hi => hh i fun e => h3 (e ▸ hi)) fun i e => hh i fun e2 => h4 (e2 ▸ e), fun x hx => ?_⟩
  obtain ⟨g0, g1, g2, g3, g4⟩ := h.off x hx
  exact ⟨g0, Nat.lt_of_lt_of_le g1 hsz, g2, fun hf => g3 (h9.2 x hf), g4⟩
/-- What Hear answers. -/
def heardV (a : Int) (b c : Nat) : Value := .agg #[.int .i64 a, .int .i64 b, .int .i64 c]
/-- A Peeler is told by a pointer. -/
def PtrI (I : PIm0) : Prop := ∀ {w : World} {v : Value} {k z : Nat} {p : PS} {T : List Nat}, I.St w v k z p T → ∃ a, v = .pointer a
/-- Behind the choice whether it is new. -/
def EMid (I : PIm0) (M : Nat → Prop) (w0 wx : World) (b : Nat) (vP : Value) (k z n : Nat) (dr : Int) (F' : List Drp) (N : List Nat) : Prop :=
  ∃ q vF, EN I M w0 wx b vP vF k z n dr q (sds F') F' N ∧ Took (setL k) q F'
end Go.Proofs.YtjgifjkdgoijmaaGreat
