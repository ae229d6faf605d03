/-
  Lemmas for the law above, joined into one text (InOwn0, InOwn, LstN). No statement is proved here.
-/
import Derived.Test.YtfgcngjggdjcjaaTG0
import Derived.Test.YtfgcngjggdjcjaaTG10
namespace Go.Proofs.Ytfgcngjggdjcjaa
open Go.RowKit
set_option linter.unusedVariables false
set_option maxRecDepth 100000

/-- Ints that the call owns, as a slice of numbers. -/
theorem own_in {w : World} {B : Nat} {v : Value} {n : Nat} {f : Nat → Int} (h : w.ownsRow B 3 1 v n ((List.range n).map fun k : Nat => .int .i64 (f k))) : IntsIn w v n f := by
  rcases Nat.eq_zero_or_pos n with rfl | h0
  · rcases h.2 with ⟨hv, _⟩ | ⟨g, cap, cur, hv, _⟩
    · exact Or.inl ⟨rfl, _, _, hv⟩
    · exact Or.inl ⟨rfl, _, _, hv⟩
  · obtain ⟨g, cap, hv, _, _, hc⟩ := own_ints h h0
    exact Or.inr ⟨h0, g, 0, cap, hv, hc⟩
end Go.Proofs.Ytfgcngjggdjcjaa



namespace Go.Proofs.Ytfgcngjggdjcjaa
open Go.RowKit
set_option linter.unusedVariables false
set_option maxRecDepth 100000

/-- A slice that holds just the numbers of the list l. -/
def Lst (w : World) (v : Value) (l : List Nat) : Prop :=
  ∃ g cap, v = .slice (some ⟨g, 0, none⟩) l.length cap ∧ l.length ≤ cap ∧ cap ≤ maxLen ∧ ∀ i, i < l.length → w.cell? ⟨g, 0 + i, none⟩ = some (.int .i64 (l.getD i 0 : Nat))
theorem Lst.below {w w' : World} {v : Value} {l : List Nat} (h : Lst w v l) (hb : Below w.heap.size w w') : Lst w' v l := by
  obtain ⟨g, cap, hv, h1, h2, h3⟩ := h
  exact ⟨g, cap, hv, h1, h2, fun i hi => cell_below hb (h3 i hi)⟩
theorem own_lst {w : World} {B : Nat} {v : Value} {l : List Nat} (h : w.ownsRow B 3 1 v l.length (l.map fun r : Nat => .int .i64 (r : Nat))) (hn : 0 < l.length) : Lst w v l := by
  have e : (l.map fun r : Nat => Value.int .i64 (r : Nat)) = (List.range l.length).map fun k : Nat => .int .i64 (l.getD k 0 : Nat) := by
    apply List.ext_getElem
    · simp
    · intro i h1 h2
      simp at h1
      simp [h1]
  rw [e] at h
  obtain ⟨g, cap, hv, h1, h2, h3⟩ := own_ints (f := fun k => ((l.getD k 0 : Nat) : Int)) h hn
  exact ⟨g, cap, hv, h1, h2, h3⟩
/-- Numbers as a slice holds them. -/
def toV (l : List Nat) : List Value := l.map fun r => .int .i64 (r : Nat)
theorem toV_one (l : List Nat) : ∀ u ∈ toV l, u.oneCell' = true := fun u hu => by
  obtain ⟨r, _, rfl⟩ := List.mem_map.1 hu
  rfl
theorem take_snocR (l : List Nat) (j : Nat) (h : j < l.length) : toV (l.take (j + 1)) = toV (l.take j) ++ [.int .i64 (l.getD j 0 : Nat)] := by
  unfold toV
  rw [List.take_add_one, List.map_append]
  simp [List.getD, h]
/-- A slice that holds just the numbers of the list l, or an empty one. -/
def Lsh (w : World) (v : Value) (l : List Nat) : Prop := ∃ a cap, v = .slice a l.length cap ∧ l.length ≤ cap ∧ cap ≤ maxLen ∧ (0 < l.length → Lst w v l)
theorem own_lsh {w : World} {B : Nat} {v : Value} {l : List Nat} (h : w.ownsRow B 3 1 v l.length (toV l)) : Lsh w v l := by
  rcases Nat.eq_zero_or_pos l.length with e | h0
  · rcases h.2 with ⟨hv, _⟩ | ⟨g, cap, cur, hv, _, _, h1, h2, _⟩
    · exact ⟨none, 0, by rw [e]; exact hv, by omega, by omega, fun h => by omega⟩
    · exact ⟨_, cap, hv, h1, h2, fun h => by omega⟩
  · obtain ⟨g, cap, hv, h1, h2, h3⟩ := own_lst h h0
    exact ⟨_, cap, hv, h1, h2, fun _ => ⟨g, cap, hv, h1, h2, h3⟩⟩
theorem Lsh.below {w w' : World} {v : Value} {l : List Nat} (h : Lsh w v l) (hb : Below w.heap.size w w') : Lsh w' v l := by
  obtain ⟨a, cap, hv, h1, h2, h3⟩ := h
  exact ⟨a, cap, hv, h1, h2, fun h0 => (h3 h0).below hb⟩
/-- What is below w's size is as it was, but for the blocks of M. -/
structure Kept (M : Nat → Prop) (w w' : World) : Prop where
  os : w'.os = w.os
  tape : w'.tape = w.tape
  output : w'.output = w.output
  size : w.heap.size ≤ w'.heap.size
  block : ∀ i, i < w.heap.size → ¬ M i → w'.heap[i]? = w.heap[i]?
theorem Kept.refl (M : Nat → Prop) (w : World) : Kept M w w := ⟨rfl, rfl, rfl, Nat.le_refl _, fun _ _ _ => rfl⟩
theorem Kept.below {M : Nat → Prop} {w0 w w' : World} (h : Kept M w0 w) (hb : Below w.heap.size w w') : Kept M w0 w' :=
  ⟨hb.os.trans h.os, hb.tape.trans h.tape, hb.output.trans h.output, Nat.le_trans h.size hb.size, fun i hi hm => (hb.block i (Nat.lt_of_lt_of_le hi h.size)).trans (h.block i hi hm)⟩
theorem Kept.grown {M : Nat → Prop} {w0 w w' : World} (h : Kept M w0 w) {row : Option Nat} (hg : w.grownBy w' row) (hr : ∀ i, row = some i → M i ∨ w0.heap.size ≤ i) : Kept M w0 w' := by
  have hb : Below 0 w w' := (Below.refl 0 w).grown hg (Nat.zero_le _) (fun _ _ => Nat.zero_le _)
  refine ⟨hb.os.trans h.os, hb.tape.trans h.tape, hb.output.trans h.output, Nat.le_trans h.size hb.size, fun i hi hm => ?_⟩
  refine (hg.block i (Nat.lt_of_lt_of_le hi h.size) (fun e => ?_)).trans (h.block i hi hm)
  rcases hr i e.symm with h1 | h1
  · exact hm h1
  · omega
theorem Kept.setCell {M : Nat → Prop} {w0 w : World} (h : Kept M w0 w) (a : Addr) (u : Value) (hr : M a.block ∨ w0.heap.size ≤ a.block) : Kept M w0 (w.setCell a u) := by
  have hb : Below 0 w (w.setCell a u) := (Below.refl 0 w).setCell (Nat.zero_le _) _
  refine ⟨hb.os.trans h.os, hb.tape.trans h.tape, hb.output.trans h.output, Nat.le_trans h.size hb.size, fun i hi hm => ?_⟩
  refine (Below.heap_setCell w a u i (fun e => ?_)).trans (h.block i hi hm)
  rcases hr with h1 | h1
  · exact hm (e ▸ h1)
  · omega

theorem own_under' {w w' : World} {B e size n : Nat} {v : Value} {xs : List Value} (h : w.ownsRow B e size v n xs) (hb : Below w.heap.size w w') : w'.ownsRow B e size v n xs := by
  refine ⟨h.1, ?_⟩
  rcases h.2 with hn | ⟨g, cap, cur, hv, h1, hgg, rest⟩
  · exact .inl hn
  · exact .inr ⟨g, cap, cur, hv, h1, (hb.block g (Array.getElem?_eq_some_iff.1 hgg).1).trans hgg, rest⟩
theorem getD_mem {l : List Nat} {j : Nat} (h : j < l.length) : l.getD j 0 ∈ l := by
  rw [show l.getD j 0 = l[j] by simp [List.getD, h]]; exact List.getElem_mem h
end Go.Proofs.Ytfgcngjggdjcjaa
