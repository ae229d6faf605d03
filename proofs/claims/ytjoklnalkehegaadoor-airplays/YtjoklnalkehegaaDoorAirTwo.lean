/-
  The program's Air and the document's, side by side. Lemmas for the laws above; no statement is proved here.
-/
import Derived.Test.YtjoklnalkehegaaDoorAirK
import Derived.Test.YtjoklnalkehegaaDoorRAir
import Derived.Test.YtjoklnalkehegaaDoorIRow
namespace Go.Proofs.YtjoklnalkehegaaDoor
open Go.RowKit Go.Maps
set_option linter.unusedVariables false
set_option maxRecDepth 100000

/-- The one at block b holds X, the other at block m holds Y, in a world above w0; the blocks of N are none of theirs. -/
def Two (w0 w : World) (b m : Nat) (X Y : List Drp) (N : List Nat) : Prop :=
  ∃ vP vR, AQ w w0.heap.size b vP X ∧ AQ w w0.heap.size m vR Y ∧ (∀ i, AF b vP i → ¬ AF m vR i) ∧ Below w0.heap.size w0 w ∧ ∀ q ∈ N, (w0.heap.size ≤ q ∧ q < w.heap.size) ∧ ¬ AF b vP q ∧ ¬ AF m vR q
/-- The blocks of N are as they were. -/
def Same (N : List Nat) (w w' : World) : Prop := ∀ q ∈ N, w'.heap[q]? = w.heap[q]?
theorem Two.above {w0 w : World} {b m : Nat} {X Y : List Drp} {N : List Nat} (h : Two w0 w b m X Y N) : Below w0.heap.size w0 w := by
  obtain ⟨_, _, _, _, _, h, _⟩ := h
  exact h
theorem Two.few {w0 w : World} {b m : Nat} {X Y : List Drp} {N : List Nat} (h : Two w0 w b m X Y N) : X.length ≤ 60 := by
  obtain ⟨_, _, h, _⟩ := h
  exact h.few
theorem Two.good {w0 w : World} {b m : Nat} {X Y : List Drp} {N : List Nat} (h : Two w0 w b m X Y N) : ∀ d ∈ X, 1 ≤ d.1 ∧ d.1 ≤ 10000 ∧ 1 ≤ d.2.size ∧ d.2.size ≤ 8 := by
  obtain ⟨_, _, h, _⟩ := h
  exact h.good
theorem Two.below {w0 w w' : World} {b m : Nat} {X Y : List Drp} {N : List Nat} (h : Two w0 w b m X Y N) (hb : Below w.heap.size w w') : Two w0 w' b m X Y N := by
  obtain ⟨vP, vR, h1, h2, h3, h4, h5⟩ := h
  exact ⟨vP, vR, h1.below hb, h2.below hb, h3, below_two h4 hb, fun q hq => ⟨⟨(h5 q hq).1.1, Nat.lt_of_lt_of_le (h5 q hq).1.2 hb.size⟩, (h5 q hq).2⟩⟩
theorem Two.same {w0 w w' : World} {b m : Nat} {X Y : List Drp} {N : List Nat} (h : Two w0 w b m X Y N) (hb : Below w.heap.size w w') : Same N w w' := fun q hq => by
  obtain ⟨vP, vR, h1, h2, h3, h4, h5⟩ := h
  exact hb.block q (h5 q hq).1.2
/-- A block that is made now is none of theirs. -/
theorem Two.alloc {w0 w : World} {b m : Nat} {X Y : List Drp} {N : List Nat} (h : Two w0 w b m X Y N) (o : Obj) : Two w0 (w.alloc o) b m X Y (w.heap.size :: N) := by
  have h9 := h.below ((Below.refl _ w).alloc (Nat.le_refl _) o)
  obtain ⟨vP, vR, h1, h2, h3, h4, h5⟩ := h9
  obtain ⟨uP, uR, g1, g2, g3, g4, g5⟩ := h
  have e1 : vP = uP := Option.some.inj (h1.cell.symm.trans (cell_below ((Below.refl _ w).alloc (Nat.le_refl _) o) g1.cell))
  have e2 : vR = uR := Option.some.inj (h2.cell.symm.trans (cell_below ((Below.refl _ w).alloc (Nat.le_refl _) o) g2.cell))
  subst e1 e2
  refine ⟨vP, vR, h1, h2, h3, h4, fun q hq => ?_⟩
  rcases List.mem_cons.1 hq with rfl | hq
  · refine ⟨⟨g4.size, ?_⟩, fun e => ?_, fun e => ?_⟩
    · simp
    · have := (g1.lt _ e).2; omega
    · have := (g2.lt _ e).2; omega
  · exact h5 q hq
theorem Two.fewer {w0 w : World} {b m : Nat} {X Y : List Drp} {N N' : List Nat} (h : Two w0 w b m X Y N) (hN : ∀ q ∈ N', q ∈ N) : Two w0 w b m X Y N' := by
  obtain ⟨vP, vR, h1, h2, h3, h4, h5⟩ := h
  exact ⟨vP, vR, h1, h2, h3, h4, fun q hq => h5 q (hN q hq)⟩
/-- A block that is none of theirs is stored into. -/
theorem Two.set {w0 w : World} {b m : Nat} {X Y : List Drp} {N : List Nat} (h : Two w0 w b m X Y N) {a : Addr} (ha : a.block ∈ N) (u : Value) : Two w0 (w.setCell a u) b m X Y N := by
  obtain ⟨vP, vR, h1, h2, h3, h4, h5⟩ := h
  obtain ⟨⟨k0, k1⟩, k2, k3⟩ := h5 _ ha
  have hs : w.heap.size ≤ (w.setCell a u).heap.size := ((Below.refl 0 w).setCell (Nat.zero_le _) u).size
  refine ⟨vP, vR, h1.keep fun i hi => Below.heap_setCell w a u i fun e => k2 (e ▸ hi), h2.keep fun i hi => Below.heap_setCell w a u i fun e => k3 (e ▸ hi), h3, h4.setCell k0 u, fun q hq => ⟨⟨(h5 q hq).1.1, Nat.lt_of_lt_of_le (h5 q hq).1.2 hs⟩, (h5 q hq).2⟩⟩
/-- A method of the one. -/
theorem Two.left {P : Program} {f : FuncId} {args : Array Value} {E : Ending} {w0 w : World} {b m : Nat} {X Y X' : List Drp} {N : List Nat} (h : Two w0 w b m X Y N)
    (K : ∀ v, AQ w w0.heap.size b v X → Calls P f args w fun e w' => e = E ∧ Moved w w0.heap.size b v X' w') : Calls P f args w fun e w' => e = E ∧ Two w0 w' b m X' Y N ∧ Same N w w' := by
  obtain ⟨vP, vR, h1, h2, hd, hb, hn⟩ := h
  refine (K vP h1).mono fun e w' ⟨he, v', hq, hk, hat⟩ => ⟨he, ⟨v', vR, hq, h2.kept hk (fun i hi e => hd i e hi), fun i hi hr => ?_, kept_below hb hk (fun i hi => (h1.lt i hi).1), fun q hq => ⟨⟨(hn q hq).1.1, Nat.lt_of_lt_of_le (hn q hq).1.2 hk.size⟩, fun e => ?_, (hn q hq).2.2⟩⟩, fun q hq => hk.block q (hn q hq).1.2 (hn q hq).2.1⟩
  · rcases hi with rfl | e
    · exact hd _ (Or.inl rfl) hr
    · rcases hat i e with e2 | e2
      · exact hd i (Or.inr e2) hr
      · have := (h2.lt i hr).2; omega
  · rcases e with e | e
    · exact (hn q hq).2.1 (Or.inl e)
    · rcases hat q e with e2 | e2
      · exact (hn q hq).2.1 (Or.inr e2)
      · have := (hn q hq).1.2; omega
theorem Two.swap {w0 w : World} {b m : Nat} {X Y : List Drp} {N : List Nat} (h : Two w0 w b m X Y N) : Two w0 w m b Y X N := by
  obtain ⟨vP, vR, h1, h2, hd, hb, hn⟩ := h
  exact ⟨vR, vP, h2, h1, fun i hi hr => hd i hr hi, hb, fun q hq => ⟨(hn q hq).1, (hn q hq).2.2, (hn q hq).2.1⟩⟩
/-- A method of the other. -/
theorem Two.right {P : Program} {f : FuncId} {args : Array Value} {E : Ending} {w0 w : World} {b m : Nat} {X Y Y' : List Drp} {N : List Nat} (h : Two w0 w b m X Y N)
    (K : ∀ v, AQ w w0.heap.size m v Y → Calls P f args w fun e w' => e = E ∧ Moved w w0.heap.size m v Y' w') : Calls P f args w fun e w' => e = E ∧ Two w0 w' b m X Y' N ∧ Same N w w' :=
  (h.swap.left K).mono fun e w' ⟨he, h1, h2⟩ => ⟨he, h1.swap, h2⟩
/-- What the other's memory says. -/
theorem Two.look {w0 w : World} {b m : Nat} {X Y : List Drp} {N : List Nat} (h : Two w0 w b m X Y N) : ∃ a cap, w.cell? ⟨m, 0, none⟩ = some (.slice a Y.length cap) ∧ Y.length ≤ cap ∧ cap ≤ maxLen ∧ (0 < Y.length → ∃ g, a = some ⟨g, 0, none⟩) ∧
    ∀ g, a = some ⟨g, 0, none⟩ → ∀ j, j < Y.length → w.cell? ⟨g, j * 2, none⟩ = some (.int .i64 ((dAt Y j).1 : Nat)) ∧ w.cell? ⟨g, j * 2 + 1, none⟩ = some (.string (dAt Y j).2) := by
  obtain ⟨vP, vR, h1, h2, hd, hb, hn⟩ := h
  obtain ⟨a, cap, rfl, q1, q2, q3, q4⟩ := own_drops h2.row
  exact ⟨a, cap, h2.cell, q1, q2, q3, q4⟩
theorem irow_of_block {w w' : World} {b n : Nat} {f : Nat → Int} (h : IRow w b n f) (hb : w'.heap[b]? = w.heap[b]?) : IRow w' b n f := fun i hi =>
  ⟨(World.cell?_of_block (w := w) hb).trans (h i hi).1, (World.frozen?_of_block (w := w) hb).trans (h i hi).2⟩
theorem irow_two (w : World) (t : TypeId) : IRow (w.alloc (.cells #[.int .i64 0, .int .i64 0] t)) w.heap.size 2 (fun _ => 0) := fun i hi => by
  have hh := (MapKept.heap_alloc w (.cells #[.int .i64 0, .int .i64 0] t)).1
  refine ⟨?_, by simp only [World.frozen?, hh]; simp⟩
  rw [cell_of_row _ _ i #[.int .i64 0, .int .i64 0] t (0, 0) hh]
  match i, hi with
  | 0, _ | 1, _ => rfl
theorem dropIn_of_block {w w' : World} {b : Nat} {seed : Int} {s : ByteArray} (h : DropIn w b seed s) (hb : w'.heap[b]? = w.heap[b]?) : DropIn w' b seed s := by
  have hc : ∀ i, w'.cell? ⟨b, i, none⟩ = w.cell? ⟨b, i, none⟩ := fun i => World.cell?_of_block (w := w) hb
  have hf : ∀ i, w'.frozen? ⟨b, i, none⟩ = w.frozen? ⟨b, i, none⟩ := fun i => World.frozen?_of_block (w := w) hb
  unfold DropIn
  rw [hc, hf, hc, hf]
  exact h
/-- Another drop is stored. -/
theorem DropIn.put {w : World} {b : Nat} {n : Int} {d : ByteArray} (h : DropIn w b n d) (seed : Int) (s : ByteArray) : DropIn ((w.setCell ⟨b, 0, none⟩ (.int .i64 seed)).setCell ⟨b, 0 + 1, none⟩ (.string s)) b seed s := by
  obtain ⟨⟨c0, f0⟩, c1, f1⟩ := h
  have c1' : (w.setCell ⟨b, 0, none⟩ (.int .i64 seed)).cell? ⟨b, 0 + 1, none⟩ = some (.string d) := by
    rw [World.cell?_setCell_other _ _ _ _ (off_ne (by decide))]; exact c1
  refine ⟨⟨?_, ?_⟩, ?_, ?_⟩
  · rw [World.cell?_setCell_other _ _ _ _ (off_ne (by decide))]
    exact World.cell?_setCell_same _ _ _ c0
  · rw [frozen_set, frozen_set]; exact f0
  · exact World.cell?_setCell_same _ _ _ c1'
  · rw [frozen_set, frozen_set]; exact f1
/-- A block whose first two cells are x and y. -/
def Pair (w : World) (q : Nat) (x y : Int) : Prop := w.cell? ⟨q, 0, none⟩ = some (.int .i64 x) ∧ w.cell? ⟨q, 1, none⟩ = some (.int .i64 y)
theorem Pair.of_block {w w' : World} {q : Nat} {x y : Int} (h : Pair w q x y) (hb : w'.heap[q]? = w.heap[q]?) : Pair w' q x y :=
  ⟨(World.cell?_of_block (w := w) hb).trans h.1, (World.cell?_of_block (w := w) hb).trans h.2⟩
theorem Pair.below {w w' : World} {q : Nat} {x y : Int} (h : Pair w q x y) (hb : Below w.heap.size w w') : Pair w' q x y := ⟨cell_below hb h.1, cell_below hb h.2⟩
/-- The error of a fault is told as that fault. -/
theorem aErr_is (f : Nat) : (((f : Nat) : Int) = 0 ∧ aErr f = .nilIface) ∨ aErr f = .iface 48 (.int .i64 f) := by
  unfold aErr
  by_cases h : f = 0
  · rw [if_pos h]; exact Or.inl ⟨by omega, rfl⟩
  · rw [if_neg h]; exact Or.inr rfl
end Go.Proofs.YtjoklnalkehegaaDoor
