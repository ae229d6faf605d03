/-
  Lemmas for the law above, joined into one text (FlR, RegK, FlI, FlL, FlLG, FlLH, FlDo). No statement is proved here.
-/
import Derived.Test.YtjhflcgphejddaaGreatDoorZG1
import Derived.Test.YtjhflcgphejddaaGreatDoorZG3
import Derived.Laws.OwnMore
import Derived.Deep.AppendLies
import Derived.Deep.OwnRows
import Derived.Test.YtjhflcgphejddaaGreatDoorZG0
import Derived.RegionTactic
import Derived.OrdersHeld
import Derived.Deep.MidRow
import Derived.Test.YtjhflcgphejddaaGreatDoorZG5
import Derived.Test.YtjhflcgphejddaaGreatDoorZG8
import Derived.Laws.MakeOwn
import Derived.Lib.SliceRun
namespace Go.Proofs.YtjhflcgphejddaaGreatDoor
open Go.RowKit
set_option linter.unusedVariables false
set_option maxRecDepth 100000

/-- The cells of a row of structs: some heads, and a slice behind each. -/
def rowVS (hd : Nat → List Value) (S : Nat → Value) (N : Nat) : List Value := (List.range N).flatMap fun i => hd i ++ [S i]
theorem rowV_succ (hd : Nat → List Value) (S : Nat → Value) (N : Nat) : rowVS hd S (N + 1) = rowVS hd S N ++ (hd N ++ [S N]) := by simp [rowVS, List.range_succ]
theorem rowV_len {hd : Nat → List Value} {S : Nat → Value} {z : Nat} : ∀ {N}, (∀ i, i < N → (hd i).length = z) → (rowVS hd S N).length = N * (z + 1)
  | 0, _ => by simp [rowVS]
  | N + 1, h => by
    rw [rowV_succ, List.length_append, rowV_len (fun i hi => h i (by omega)), List.length_append, h N (by omega), Nat.succ_mul]
    simp
theorem rowV_at {hd : Nat → List Value} {S : Nat → Value} {z : Nat} : ∀ {N}, (∀ i, i < N → (hd i).length = z) → ∀ {i j}, i < N → j < z + 1 → (rowVS hd S N)[i * (z + 1) + j]? = (hd i ++ [S i])[j]?
  | 0, _, i, j, hi, _ => absurd hi (Nat.not_lt_zero _)
  | N + 1, h, i, j, hi, hj => by
    have hlen := rowV_len (hd := hd) (S := S) (N := N) (fun i hi => h i (by omega))
    rw [rowV_succ]
    by_cases c : i = N
    · subst c
      rw [List.getElem?_append_right (by rw [hlen]; omega), hlen]
      congr 1
      omega
    · have h1 : i * (z + 1) + j < N * (z + 1) := by
        have : (i + 1) * (z + 1) ≤ N * (z + 1) := Nat.mul_le_mul (by omega) (Nat.le_refl _)
        rw [Nat.succ_mul] at this
        omega
      rw [List.getElem?_append_left (by rw [hlen]; exact h1)]
      exact rowV_at (fun i hi => h i (by omega)) (by omega) hj

/-- A row of structs that a call owns, with what their slices hold: all in blocks from B on, none in the row's own. -/
structure RowS (w : World) (B : Nat) (e : TypeId) (z : Nat) (v : Value) (N : Nat) (hd : Nat → List Value) (S : Nat → Value) (n : Nat → Nat) (f : Nat → Nat → Int) : Prop where
  own : w.ownsRow B e (z + 1) v N (rowVS hd S N)
  hl : ∀ i, i < N → (hd i).length = z
  ints : ∀ i, i < N → IntsIn w (S i) (n i) (f i)
  new : ∀ i, i < N → 0 < n i → ∀ k, (S i).ownBlock = some k → B ≤ k
  off : ∀ i, i < N → 0 < n i → ∀ k, (S i).ownBlock = some k → v.ownBlock ≠ some k
theorem rowS_nil (w : World) (B : Nat) (e : TypeId) (z : Nat) (hd : Nat → List Value) (S : Nat → Value) (n : Nat → Nat) (f : Nat → Nat → Int) : RowS w B e z (.slice none 0 0) 0 hd S n f :=
  ⟨World.ownsRow_nil _ _ _ _, fun i hi => absurd hi (Nat.not_lt_zero _), fun i hi => absurd hi (Nat.not_lt_zero _), fun i hi => absurd hi (Nat.not_lt_zero _), fun i hi => absurd hi (Nat.not_lt_zero _)⟩
theorem own_below {w w' : World} {B e size n : Nat} {v : Value} {xs : List Value} (h : w.ownsRow B e size v n xs) (hb : Below w.heap.size w w') : w'.ownsRow B e size v n xs := by
  refine ⟨h.1, ?_⟩
  rcases h.2 with hn | ⟨g, cap, cur, hv, h1, hgg, rest⟩
  · exact .inl hn
  · exact .inr ⟨g, cap, cur, hv, h1, (hb.block g (Array.getElem?_eq_some_iff.1 hgg).1).trans hgg, rest⟩
theorem ints_block {w : World} {v : Value} {n : Nat} {f : Nat → Int} (h : IntsIn w v n f) (h0 : 0 < n) : ∃ k, v.ownBlock = some k ∧ k < w.heap.size := by
  rcases h with ⟨h, _⟩ | ⟨_, b, o, c, rfl, hc⟩
  · omega
  · exact ⟨b, rfl, cell_lt (hc 0 h0)⟩
theorem ints_other {w w' : World} {v : Value} {n : Nat} {f : Nat → Int} (h : IntsIn w v n f) (hk : 0 < n → ∀ k, v.ownBlock = some k → w'.heap[k]? = w.heap[k]?) : IntsIn w' v n f := by
  rcases h with h | ⟨h0, b, o, c, rfl, hc⟩
  · exact Or.inl h
  · refine Or.inr ⟨h0, b, o, c, rfl, fun i hi => ?_⟩
    rw [World.cell?_of_block (w := w) (hk h0 b rfl)]
    exact hc i hi
section
variable {w : World} {B : Nat} {e : TypeId} {z : Nat} {v : Value} {N : Nat} {hd : Nat → List Value} {S : Nat → Value} {n : Nat → Nat} {f : Nat → Nat → Int}
theorem RowS.below (h : RowS w B e z v N hd S n f) {w' : World} (hb : Below w.heap.size w w') : RowS w' B e z v N hd S n f :=
  ⟨own_below h.own hb, h.hl, fun i hi => (h.ints i hi).below hb, h.new, h.off⟩
theorem RowS.set (h : RowS w B e z v N hd S n f) {b : Nat} (hb : b < B) (o : Nat) (u : Value) : RowS (w.setCell ⟨b, o, none⟩ u) B e z v N hd S n f := by
  have hk : ∀ k, k ≠ b → (w.setCell ⟨b, o, none⟩ u).heap[k]? = w.heap[k]? := fun k hk => Below.heap_setCell w _ _ _ hk
  refine ⟨⟨h.own.1, ?_⟩, h.hl, fun i hi => ints_other (h.ints i hi) (fun h0 k e => hk k (by have := h.new i hi h0 k e; omega)), h.new, h.off⟩
  rcases h.own.2 with hn | ⟨g, cap, cur, hv, h1, hgg, rest⟩
  · exact .inl hn
  · exact .inr ⟨g, cap, cur, hv, h1, (hk g (by omega)).trans hgg, rest⟩
/-- One more, by append: its cells were laid in a block of their own. -/
theorem RowS.snoc (h : RowS w B e z v N hd S n f) {o : Obj} {w5 : World} {g cap : Nat} (hown : w5.ownsRow B e (z + 1) (.slice (some ⟨g, 0, none⟩) (N + 1) cap) (N + 1) (rowVS hd S N ++ (hd N ++ [S N]))) (hgrow : (w.alloc o).grownBy w5 v.ownBlock) (hat : v.ownBlock = some g ∨ g = (w.alloc o).heap.size)
    (hl : (hd N).length = z) (hi : IntsIn w (S N) (n N) (f N)) (hnew : 0 < n N → ∀ k, (S N).ownBlock = some k → B ≤ k) (hoff : 0 < n N → ∀ k, (S N).ownBlock = some k → v.ownBlock ≠ some k) :
    RowS w5 B e z (.slice (some ⟨g, 0, none⟩) (N + 1) cap) (N + 1) hd S n f := by
  have hal : ∀ k, k < w.heap.size → (w.alloc o).heap[k]? = w.heap[k]? := fun k hk => ((Below.refl w.heap.size w).alloc (Nat.le_refl _) o).block k hk
  have hsz : (w.alloc o).heap.size = w.heap.size + 1 := by simp
  have hall : ∀ i, i < N + 1 → IntsIn w (S i) (n i) (f i) ∧ (0 < n i → ∀ k, (S i).ownBlock = some k → B ≤ k ∧ v.ownBlock ≠ some k) := fun i hi' => by
    by_cases c : i = N
    · subst c; exact ⟨hi, fun h0 k e => ⟨hnew h0 k e, hoff h0 k e⟩⟩
    · exact ⟨h.ints i (by omega), fun h0 k e => ⟨h.new i (by omega) h0 k e, h.off i (by omega) h0 k e⟩⟩
  have hlt : ∀ i, i < N + 1 → 0 < n i → ∀ k, (S i).ownBlock = some k → k < w.heap.size := fun i hi' h0 k e => by
    obtain ⟨k', e', hk'⟩ := ints_block (hall i hi').1 h0
    rw [e] at e'
    cases e'
    exact hk'
  refine ⟨by rw [rowV_succ]; exact hown, fun i hi' => ?_, fun i hi' => ?_, fun i hi' h0 k e => ((hall i hi').2 h0 k e).1, fun i hi' h0 k e => ?_⟩
  · by_cases c : i = N
    · subst c; exact hl
    · exact h.hl i (by omega)
  · refine ints_other (hall i hi').1 (fun h0 k e => ?_)
    have h1 := hlt i hi' h0 k e
    rw [hgrow.block k (by omega) (fun e2 => ((hall i hi').2 h0 k e).2 e2.symm), hal k h1]
  · intro e2
    have e3 : g = k := by simpa [Value.ownBlock] using e2
    subst e3
    rcases hat with hat | hat
    · exact ((hall i hi').2 h0 g e).2 hat
    · have := hlt i hi' h0 g e; omega
theorem RowS.congr (h : RowS w B e z v N hd S n f) {hd' : Nat → List Value} {S' : Nat → Value} {n' : Nat → Nat} {f' : Nat → Nat → Int} (e1 : ∀ i, i < N → hd i = hd' i) (e2 : ∀ i, i < N → S i = S' i) (e3 : ∀ i, i < N → n i = n' i) (e4 : ∀ i, i < N → f i = f' i) : RowS w B e z v N hd' S' n' f' := by
  have e : rowVS hd S N = rowVS hd' S' N := by
    unfold rowVS
    apply congrArg List.flatten
    apply List.map_congr_left
    intro i hi
    have := List.mem_range.1 hi
    rw [e1 i this, e2 i this]
  exact ⟨e ▸ h.own, fun i hi => by rw [← e1 i hi]; exact h.hl i hi, fun i hi => by rw [← e2 i hi, ← e3 i hi, ← e4 i hi]; exact h.ints i hi, fun i hi => by rw [← e2 i hi, ← e3 i hi]; exact h.new i hi, fun i hi => by rw [← e2 i hi, ← e3 i hi]; exact h.off i hi⟩
/-- Where a struct's cells lie. -/
theorem RowS.cells (h : RowS w B e z v N hd S n f) (h0 : 0 < N) : ∃ g cap, v = .slice (some ⟨g, 0, none⟩) N cap ∧ N ≤ cap ∧ cap ≤ maxLen ∧ ∀ i j, i < N → j < z + 1 → w.cell? ⟨g, 0 + i * (z + 1) + j, none⟩ = (hd i ++ [S i])[j]? := by
  have h' := h.own
  rcases h.own.2 with ⟨_, hn⟩ | ⟨g, cap, cur, hv, _, hgg, h1, h2, _⟩
  · omega
  · refine ⟨g, cap, hv, h1, h2, fun i j hi hj => ?_⟩
    rw [hv] at h'
    have hlt : i * (z + 1) + j < N * (z + 1) := by
      have : (i + 1) * (z + 1) ≤ N * (z + 1) := Nat.mul_le_mul (by omega) (Nat.le_refl _)
      rw [Nat.succ_mul] at this
      omega
    rw [Nat.zero_add, h'.cellAt _ hlt]
    exact rowV_at h.hl hi hj
theorem RowS.shape (h : RowS w B e z v N hd S n f) : ∃ ad cap, v = .slice ad N cap ∧ N ≤ cap ∧ cap ≤ maxLen := by
  rcases h.own.2 with ⟨hv, hn⟩ | ⟨g, cap, cur, hv, _, hgg, h1, h2, _⟩
  · exact ⟨none, 0, by rw [hn]; exact hv, by omega, by unfold maxLen; omega⟩
  · exact ⟨_, cap, hv, h1, h2⟩
end
/-- Heads of a picture, of a coded one. -/
def picH (P : Nat → Pc) (i : Nat) : List Value := [.int .i64 (P i).a, .int .i64 (P i).b]
def codH (C : Nat → Cd) (i : Nat) : List Value := [.bool (C i).al, .int .i64 (C i).x, .int .i64 (C i).y]
/-- A row of pictures, of coded ones, that a call owns. -/
def PicR (w : World) (B : Nat) (v : Value) (N : Nat) (P : Nat → Pc) : Prop := ∃ S, RowS w B 33 2 v N (picH P) S (fun i => (P i).n) (fun i => (P i).f)
def CodR (w : World) (B : Nat) (v : Value) (N : Nat) (C : Nat → Cd) : Prop := ∃ S, RowS w B 66 3 v N (codH C) S (fun i => (C i).n) (fun i => (C i).f)
theorem PicR.pics {w : World} {B : Nat} {v : Value} {N : Nat} {P : Nat → Pc} (h : PicR w B v N P) : PicsIn w v N P := by
  obtain ⟨S, h⟩ := h
  obtain ⟨ad, cap, rfl, h1, h2⟩ := h.shape
  refine ⟨ad, cap, rfl, h1, h2, fun h0 => ?_⟩
  obtain ⟨g, cap', e, _, _, hc⟩ := h.cells h0
  cases e
  exact ⟨g, 0, rfl, fun i hi => ⟨S i, by simpa [picH] using hc i 0 hi (by omega), by simpa [picH] using hc i 1 hi (by omega), by simpa [picH] using hc i 2 hi (by omega), h.ints i hi⟩⟩
theorem CodR.cods {w : World} {B : Nat} {v : Value} {N : Nat} {C : Nat → Cd} (h : CodR w B v N C) : CodsIn w v N C := by
  obtain ⟨S, h⟩ := h
  obtain ⟨ad, cap, rfl, h1, h2⟩ := h.shape
  refine ⟨ad, cap, rfl, h1, h2, fun h0 => ?_⟩
  obtain ⟨g, cap', e, _, _, hc⟩ := h.cells h0
  cases e
  exact ⟨g, 0, rfl, fun i hi => ⟨S i, by simpa [codH] using hc i 0 hi (by omega), by simpa [codH] using hc i 1 hi (by omega), by simpa [codH] using hc i 2 hi (by omega), by simpa [codH] using hc i 3 hi (by omega), h.ints i hi⟩⟩
theorem PicR.below {w w' : World} {B : Nat} {v : Value} {N : Nat} {P : Nat → Pc} (h : PicR w B v N P) (hb : Below w.heap.size w w') : PicR w' B v N P := by
  obtain ⟨S, h⟩ := h; exact ⟨S, h.below hb⟩
theorem CodR.below {w w' : World} {B : Nat} {v : Value} {N : Nat} {C : Nat → Cd} (h : CodR w B v N C) (hb : Below w.heap.size w w') : CodR w' B v N C := by
  obtain ⟨S, h⟩ := h; exact ⟨S, h.below hb⟩
theorem PicR.set {w : World} {B : Nat} {v : Value} {N : Nat} {P : Nat → Pc} (h : PicR w B v N P) {b : Nat} (hb : b < B) (o : Nat) (u : Value) : PicR (w.setCell ⟨b, o, none⟩ u) B v N P := by
  obtain ⟨S, h⟩ := h; exact ⟨S, h.set hb o u⟩
theorem CodR.set {w : World} {B : Nat} {v : Value} {N : Nat} {C : Nat → Cd} (h : CodR w B v N C) {b : Nat} (hb : b < B) (o : Nat) (u : Value) : CodR (w.setCell ⟨b, o, none⟩ u) B v N C := by
  obtain ⟨S, h⟩ := h; exact ⟨S, h.set hb o u⟩
/-- One more, as append leaves it. -/
theorem PicR.snoc {w w5 : World} {B : Nat} {v : Value} {N : Nat} {P : Nat → Pc} {S : Nat → Value} {s : Value} {o : Obj} {g cap : Nat} (h : RowS w B 33 2 v N (picH P) S (fun i => (P i).n) (fun i => (P i).f))
    (hown : w5.ownsRow B 33 3 (.slice (some ⟨g, 0, none⟩) (N + 1) cap) (N + 1) (rowVS (picH P) S N ++ [.int .i64 (P N).a, .int .i64 (P N).b, s])) (hgrow : (w.alloc o).grownBy w5 v.ownBlock) (hat : v.ownBlock = some g ∨ g = (w.alloc o).heap.size)
    (hi : IntsIn w s (P N).n (P N).f) (hnew : ∀ k, s.ownBlock = some k → B ≤ k) (hoff : ∀ k, s.ownBlock = some k → v.ownBlock ≠ some k) : PicR w5 B (.slice (some ⟨g, 0, none⟩) (N + 1) cap) (N + 1) P := by
  have h' := h.congr (hd' := picH P) (S' := fun i => if i = N then s else S i) (n' := fun i => (P i).n) (f' := fun i => (P i).f) (fun _ _ => rfl) (fun i hi => (if_neg (by omega)).symm) (fun _ _ => rfl) (fun _ _ => rfl)
  have e : rowVS (picH P) S N = rowVS (picH P) (fun i => if i = N then s else S i) N := by
    unfold rowVS
    apply congrArg List.flatten
    apply List.map_congr_left
    intro i hi
    have hlt := List.mem_range.1 hi
    show picH P i ++ [S i] = picH P i ++ [if i = N then s else S i]
    rw [if_neg (by omega)]
  refine ⟨fun i => if i = N then s else S i, h'.snoc ?_ hgrow hat rfl ?_ ?_ ?_⟩
  · show w5.ownsRow B _ _ _ _ (rowVS (picH P) _ N ++ (picH P N ++ [if N = N then s else S N]))
    rw [if_pos rfl, ← e]; exact hown
  · show IntsIn w (if N = N then s else S N) _ _
    rw [if_pos rfl]; exact hi
  · show 0 < _ → ∀ k, (if N = N then s else S N).ownBlock = some k → _
    rw [if_pos rfl]; exact fun _ => hnew
  · show 0 < _ → ∀ k, (if N = N then s else S N).ownBlock = some k → _
    rw [if_pos rfl]; exact fun _ => hoff
theorem CodR.snoc {w w5 : World} {B : Nat} {v : Value} {N : Nat} {C : Nat → Cd} {S : Nat → Value} {s : Value} {o : Obj} {g cap : Nat} (h : RowS w B 66 3 v N (codH C) S (fun i => (C i).n) (fun i => (C i).f))
    (hown : w5.ownsRow B 66 4 (.slice (some ⟨g, 0, none⟩) (N + 1) cap) (N + 1) (rowVS (codH C) S N ++ [.bool (C N).al, .int .i64 (C N).x, .int .i64 (C N).y, s])) (hgrow : (w.alloc o).grownBy w5 v.ownBlock) (hat : v.ownBlock = some g ∨ g = (w.alloc o).heap.size)
    (hi : IntsIn w s (C N).n (C N).f) (hnew : ∀ k, s.ownBlock = some k → B ≤ k) (hoff : ∀ k, s.ownBlock = some k → v.ownBlock ≠ some k) : CodR w5 B (.slice (some ⟨g, 0, none⟩) (N + 1) cap) (N + 1) C := by
  have h' := h.congr (hd' := codH C) (S' := fun i => if i = N then s else S i) (n' := fun i => (C i).n) (f' := fun i => (C i).f) (fun _ _ => rfl) (fun i hi => (if_neg (by omega)).symm) (fun _ _ => rfl) (fun _ _ => rfl)
  have e : rowVS (codH C) S N = rowVS (codH C) (fun i => if i = N then s else S i) N := by
    unfold rowVS
    apply congrArg List.flatten
    apply List.map_congr_left
    intro i hi
    have hlt := List.mem_range.1 hi
    show codH C i ++ [S i] = codH C i ++ [if i = N then s else S i]
    rw [if_neg (by omega)]
  refine ⟨fun i => if i = N then s else S i, h'.snoc ?_ hgrow hat rfl ?_ ?_ ?_⟩
  · show w5.ownsRow B _ _ _ _ (rowVS (codH C) _ N ++ (codH C N ++ [if N = N then s else S N]))
    rw [if_pos rfl, ← e]; exact hown
  · show IntsIn w (if N = N then s else S N) _ _
    rw [if_pos rfl]; exact hi
  · show 0 < _ → ∀ k, (if N = N then s else S N).ownBlock = some k → _
    rw [if_pos rfl]; exact fun _ => hnew
  · show 0 < _ → ∀ k, (if N = N then s else S N).ownBlock = some k → _
    rw [if_pos rfl]; exact fun _ => hoff
end Go.Proofs.YtjhflcgphejddaaGreatDoor

namespace Go.Proofs.YtjhflcgphejddaaGreatDoor
open Go.RowKit
set_option linter.unusedVariables false
set_option maxRecDepth 100000

theorem Act.size_put (a : Act) (d : Tmp) (v : Value) : (a.put (some d) v).tmps.size = a.tmps.size := by simp [Act.put]
theorem Act.sz {a : Act} {d : Tmp} {v : Value} {n : Nat} (hs : a.tmps.size = n) : (a.put (some d) v).tmps.size = n := (Act.size_put a d v).trans hs
theorem Act.ev_put (a : Act) (d t : Tmp) (v : Value) (h : d < a.tmps.size) : (a.put (some d) v).eval (.tmp t) = if t = d then v else a.eval (.tmp t) := by
  simp only [Act.put, Act.eval, Array.getD_eq_getD_getElem?, Array.getElem?_setIfInBounds]
  by_cases e : d = t
  · subst e; simp [h]
  · rw [if_neg e, if_neg (fun h => e h.symm)]
theorem Act.ev_eq {a : Act} {d : Tmp} {v : Value} {n : Nat} (hs : a.tmps.size = n) (h : d < n) : (a.put (some d) v).eval (.tmp d) = v := by rw [Act.ev_put a d d v (hs ▸ h), if_pos rfl]
theorem Act.ev_ne {a : Act} {d t : Tmp} {v u : Value} (h : t ≠ d) (hu : a.eval (.tmp t) = u) : (a.put (some d) v).eval (.tmp t) = u := by
  rw [← hu]
  simp only [Act.put, Act.eval, Array.getD_eq_getD_getElem?, Array.getElem?_setIfInBounds]
  rw [if_neg (fun e => h e.symm)]
theorem Act.put_swap (a : Act) {d e : Tmp} (u v : Value) (h : d ≠ e) : (a.put (some d) u).put (some e) v = (a.put (some e) v).put (some d) u := by
  simp only [Act.put]
  rw [Array.setIfInBounds_comm _ _ h]
theorem run_move {P : Program} {r : Operand → Value} {o : Oper} {x : Operand} {v : Value} (h : o.op = .move x) (hx : r x = v) (w : World) : (execOp r o).run P w = .ok (.value v) w := by
  rw [← hx]; unfold execOp; simp only [h]; rfl
theorem run_index {P : Program} {r : Operand → Value} {o : Oper} {t : TypeId} {x y : Operand} {v ux uy : Value} {w : World} (h : o.op = .indexAddr t x y) (hx : r x = ux) (hy : r y = uy) (hr : (Instr.indexAt t ux uy).run P w = .ok v w) : (execOp r o).run P w = .ok (.value v) w := by
  unfold execOp; simp only [h, hx, hy, Sem.run_bind, hr, Result.andThen_ok, Sem.run_pure]
theorem wp_value {P : Program} {o : Oper} {a : Act} {w : World} {K : Act → World → Prop} {Q : Exit → Act → World → Prop} {v : Value} (h : (execOp a.eval o).run P w = .ok (.value v) w) (hk : K (a.put o.dst v) w) : o.wp P a w K Q := by
  unfold Oper.wp; rw [h]; exact hk
theorem run_load {P : Program} {r : Operand → Value} {o : Oper} {t : TypeId} {x : Operand} {v ux : Value} {w : World} (h : o.op = .load t x) (hx : r x = ux) (hr : (Instr.loadAt t ux).run P w = .ok v w) : (execOp r o).run P w = .ok (.value v) w := by
  unfold execOp; simp only [h, hx, Sem.run_bind, hr, Result.andThen_ok, Sem.run_pure]
/-- A statement, shut: nothing looks into it. -/
structure ShutG (p : Prop) : Prop where
  out : p
theorem any_take {P : Program} {ops : Array Oper} {Q : Exit → Act → World → Prop} {md : Region.Mode} {i : Nat} {oi : Oper} {v : Value} {d : Tmp} {fuel : Nat} {listed : Array Bool} {a : Act} {w : World} (hi : ops[i]? = some oi) (hd : oi.dst = some d)
    (hs : Region.noSelect ops = true) (hf : Region.free md ops listed i = true) (hr : (Region.ready md ops listed).contains i = true) (hw : oi.guard = none)
    (hQ : ∀ c a (d : Tmp) v w, Q (.panic c) (Act.put a (some d) v) w → Q (.panic c) a w) (hy : ∀ w, (execOp a.eval oi).run P w = .ok (.value v) w)
    (h : wpAny P md ops Q fuel (listed.setIfInBounds i true) (a.put (some d) v) w) : wpAny P md ops Q (fuel + 1) listed a w :=
  wpAny_take hi hs hf hr (fun c a w h => hQ c a d v w (by rw [hd] at h; exact h)) (Or.inl ⟨by unfold Region.wanted; rw [hw], hy⟩) (by rw [hd]; exact h)
theorem any_one {P : Program} {ops : Array Oper} {Q : Exit → Act → World → Prop} {md : Region.Mode} {fuel : Nat} {listed : Array Bool} {a : Act} {w : World} {i : Nat} {o : Oper} (hr : Region.ready md ops listed = [i]) (ho : ops[i]? = some o) (hw : o.guard = none)
    (h : ∀ K' : Act → World → Prop, (∀ a w, wpAny P md ops Q fuel (listed.setIfInBounds i true) a w → K' a w) → ShutG (Oper.wp P o a w K' Q)) : wpAny P md ops Q (fuel + 1) listed a w :=
  wpAny_ready hr (by simp) (AllReady.cons ho (fun K hK => by rw [if_pos (by unfold Region.wanted; rw [hw])]; exact (h K hK).out) AllReady.nil)
theorem any_two {P : Program} {ops : Array Oper} {Q : Exit → Act → World → Prop} {md : Region.Mode} {fuel : Nat} {listed : Array Bool} {a : Act} {w : World} {i j : Nat} {o o' : Oper} (hr : Region.ready md ops listed = [i, j]) (ho : ops[i]? = some o) (hw : o.guard = none) (ho' : ops[j]? = some o') (hw' : o'.guard = none)
    (h : ∀ K' : Act → World → Prop, (∀ a w, wpAny P md ops Q fuel (listed.setIfInBounds i true) a w → K' a w) → ShutG (Oper.wp P o a w K' Q))
    (h' : ∀ K' : Act → World → Prop, (∀ a w, wpAny P md ops Q fuel (listed.setIfInBounds j true) a w → K' a w) → ShutG (Oper.wp P o' a w K' Q)) : wpAny P md ops Q (fuel + 1) listed a w :=
  wpAny_ready hr (by simp) (AllReady.cons ho (fun K hK => by rw [if_pos (by unfold Region.wanted; rw [hw])]; exact (h K hK).out) (AllReady.cons ho' (fun K hK => by rw [if_pos (by unfold Region.wanted; rw [hw'])]; exact (h' K hK).out) AllReady.nil))
theorem wp_value_at {P : Program} {o : Oper} {a : Act} {w : World} {K : Act → World → Prop} {Q : Exit → Act → World → Prop} {v : Value} {d : Tmp} (hd : o.dst = some d) (h : (execOp a.eval o).run P w = .ok (.value v) w) (hk : K (a.put (some d) v) w) : ShutG (o.wp P a w K Q) := by
  refine ⟨?_⟩
  unfold Oper.wp; rw [h, Oper.upon_value, hd]; exact hk
theorem wp_call_at {P : Program} {o : Oper} {a : Act} {w : World} {K : Act → World → Prop} {Q : Exit → Act → World → Prop} {d : Tmp} {R : Value → World → Prop} {f : FuncId} {args : Array Operand} {tys : Array TypeId} (vs : Array Value) (hd : o.dst = some d) (ho : o.op = .call ⟨.value (.func f), args, tys⟩) (hv : args.map a.eval = vs)
    (hr : (invoke (.fn (.func f) #[]) vs).run P w = .ok (.enter f vs) w) (h : Calls P f vs w fun e w' => ∃ v, e = .returned v ∧ R v w') (hk : ∀ v w', R v w' → K (a.put (some d) v) w') : ShutG (o.wp P a w K Q) := by
  refine ⟨?_⟩
  have e : (execOp a.eval o).run P w = .ok (.enter f vs) w := by
    unfold execOp
    simp only [ho, resolve, hv, Sem.run_bind]
    rw [show a.eval (.func f) = .func (.func f) #[] #[] from rfl]
    simp only [Deferred.ofValue, Sem.run_pure, Result.andThen_ok, Array.empty_append]
    exact hr
  unfold Oper.wp
  rw [e, Oper.upon_enter, hd]
  exact h.mono fun e w' ⟨v, he, hR⟩ => by subst he; exact hk v w' hR
theorem wp_store_at {P : Program} {op : Oper} {a : Act} {w : World} {K : Act → World → Prop} {Q : Exit → Act → World → Prop} (ty : TypeId) (x y : Operand) (ho : op.op = .store ty x y) (hd : op.dst = none)
    (b o : Nat) (cells : Array Value) (hx : a.eval x = .pointer (some ⟨b, o, none⟩)) (hy : a.eval y = .agg cells)
    (ht : w.there b o cells.size) (hi : (P.info? ty).map (·.size) = some cells.size) (h1 : cells.all (·.oneCell') = true)
    (h : K a (w.setCells b o cells.toList)) : ShutG (op.wp P a w K Q) := ⟨wp_store_mid ty x y ho b o cells hx hy ht hi h1 (by rw [hd]; exact h)⟩
theorem wp_value_to {P : Program} {o : Oper} {a : Act} {w w' : World} {K : Act → World → Prop} {Q : Exit → Act → World → Prop} {v : Value} {d : Tmp} (hd : o.dst = some d) (h : (execOp a.eval o).run P w = .ok (.value v) w') (hk : K (a.put (some d) v) w') : ShutG (o.wp P a w K Q) := by
  refine ⟨?_⟩
  unfold Oper.wp; rw [h, Oper.upon_value, hd]; exact hk
theorem run_field {P : Program} {r : Operand → Value} {o : Oper} {t : TypeId} {x : Operand} {n : Nat} {v ux : Value} {w : World} (h : o.op = .fieldAddr t x n) (hx : r x = ux) (hr : (Instr.fieldAt t ux n).run P w = .ok v w) : (execOp r o).run P w = .ok (.value v) w := by
  unfold execOp; simp only [h, hx, Sem.run_bind, hr, Result.andThen_ok, Sem.run_pure]

theorem map_one {f : Operand → Value} {x : Operand} {u : Value} (hx : f x = u) : #[x].map f = #[u] := by simp [hx]
theorem map_two {f : Operand → Value} {x y : Operand} {u v : Value} (hx : f x = u) (hy : f y = v) : #[x, y].map f = #[u, v] := by simp [hx, hy]

/-! The same where what is read may be taken first, in every world that meets S. -/
theorem anyH_take {P : Program} {ops : Array Oper} {Q : Exit → Act → World → Prop} {S : World → Prop} {md : Region.Mode} {i : Nat} {oi : Oper} {v : Value} {d : Tmp} {fuel : Nat} {listed : Array Bool} {a : Act} {w : World} (hi : ops[i]? = some oi) (hd : oi.dst = some d)
    (hs : Region.noSelect ops = true) (hf : Region.free md ops listed i = true) (hr : (Region.ready md ops listed).contains i = true) (hw : oi.guard = none)
    (hQ : ∀ c a (d : Tmp) v w, Q (.panic c) (Act.put a (some d) v) w → Q (.panic c) a w) (hS : S w) (hy : ∀ w, S w → (execOp a.eval oi).run P w = .ok (.value v) w)
    (h : wpAnyH P md ops Q S fuel (listed.setIfInBounds i true) (a.put (some d) v) w) : wpAnyH P md ops Q S (fuel + 1) listed a w :=
  wpAnyH_take hi hs hf hr (fun c a w h => hQ c a d v w (by rw [hd] at h; exact h)) (Or.inl ⟨by unfold Region.wanted; rw [hw], hy⟩) hS (by rw [hd]; exact h)
theorem anyH_one {P : Program} {ops : Array Oper} {Q : Exit → Act → World → Prop} {S : World → Prop} {md : Region.Mode} {fuel : Nat} {listed : Array Bool} {a : Act} {w : World} {i : Nat} {o : Oper} (hr : Region.ready md ops listed = [i]) (ho : ops[i]? = some o) (hw : o.guard = none)
    (h : ∀ K' : Act → World → Prop, (∀ a w, S w → wpAnyH P md ops Q S fuel (listed.setIfInBounds i true) a w → K' a w) → ShutG (Oper.wp P o a w K' Q)) : wpAnyH P md ops Q S (fuel + 1) listed a w :=
  wpAnyH_all hr (by simp) fun j hj => by
    obtain rfl : j = i := by simpa using hj
    exact wpOp_step ho fun K hK => by rw [if_pos (by unfold Region.wanted; rw [hw])]; exact (h K fun a w h1 h2 => hK a w ⟨h1, h2⟩).out
theorem anyH_two {P : Program} {ops : Array Oper} {Q : Exit → Act → World → Prop} {S : World → Prop} {md : Region.Mode} {fuel : Nat} {listed : Array Bool} {a : Act} {w : World} {i j : Nat} {o o' : Oper} (hr : Region.ready md ops listed = [i, j]) (ho : ops[i]? = some o) (hw : o.guard = none) (ho' : ops[j]? = some o') (hw' : o'.guard = none)
    (h : ∀ K' : Act → World → Prop, (∀ a w, S w → wpAnyH P md ops Q S fuel (listed.setIfInBounds i true) a w → K' a w) → ShutG (Oper.wp P o a w K' Q))
    (h' : ∀ K' : Act → World → Prop, (∀ a w, S w → wpAnyH P md ops Q S fuel (listed.setIfInBounds j true) a w → K' a w) → ShutG (Oper.wp P o' a w K' Q)) : wpAnyH P md ops Q S (fuel + 1) listed a w :=
  wpAnyH_all hr (by simp) fun q hq => by
    rcases (by simpa using hq : q = i ∨ q = j) with rfl | rfl
    · exact wpOp_step ho fun K hK => by rw [if_pos (by unfold Region.wanted; rw [hw])]; exact (h K fun a w h1 h2 => hK a w ⟨h1, h2⟩).out
    · exact wpOp_step ho' fun K hK => by rw [if_pos (by unfold Region.wanted; rw [hw'])]; exact (h' K fun a w h1 h2 => hK a w ⟨h1, h2⟩).out
end Go.Proofs.YtjhflcgphejddaaGreatDoor

namespace Go.Proofs.YtjhflcgphejddaaGreatDoor
open Go.RowKit
set_option linter.unusedVariables false
set_option maxRecDepth 100000

theorem Tryz.infoPic : (Tryz.prog.info? 33).map (fun i => (i.zero, i.size, i.bytes)) = some (some (.agg #[.int .i64 0, .int .i64 0, .slice none 0 0]), 3, 40) := by kernel_rfl
theorem Tryz.infoCod : (Tryz.prog.info? 66).map (fun i => (i.zero, i.size, i.bytes)) = some (some (.agg #[.bool false, .int .i64 0, .int .i64 0, .slice none 0 0]), 4, 48) := by kernel_rfl
end Go.Proofs.YtjhflcgphejddaaGreatDoor

namespace Go.Proofs.YtjhflcgphejddaaGreatDoor
open Go.RowKit
set_option linter.unusedVariables false
set_option maxRecDepth 100000

theorem sets_belowF {B g : Nat} {a : World} (hb : B ≤ g) : ∀ (vs : List Value) (o : Nat) (w : World), Below B a w → Below B a (w.setCells g o vs)
  | [], _, _, h => h
  | v :: vs, o, w, h => sets_belowF hb vs (o + 1) _ (h.setCell (show B ≤ g from hb) v)
theorem range_below {w w' : World} {b o : Nat} {cs : List Value} (h : w.rangeAt b o cs) (hb : Below w.heap.size w w') : w'.rangeAt b o cs := fun j v hj => cell_below hb (h j v hj)
theorem there_new (w : World) (cs : Array Value) (t : TypeId) : (w.alloc (.cells cs t)).there w.heap.size 0 cs.size := fun j hj => by
  have hh := (MapKept.heap_alloc w (.cells cs t)).1
  rw [Nat.zero_add]
  refine ⟨?_, by simp only [World.frozen?, hh]; simp⟩
  rw [cell_of_row _ _ j _ t (0, 0) hh]
  simp [hj]
theorem there_below {w w' : World} {b o n : Nat} (h : w.there b o n) (hb : Below w.heap.size w w') : w'.there b o n := fun j hj => by
  obtain ⟨h1, h2⟩ := h j hj
  obtain ⟨u, hu⟩ := Option.isSome_iff_exists.1 h1
  exact ⟨by rw [cell_below hb hu]; rfl, (hb.frozen (cell_lt hu)).trans h2⟩
theorem run_assign {P : Program} {r : Operand → Value} {o : Oper} {x : Operand} {v : Value} (h : o.op = .assign x) (hx : r x = v) (w : World) : (execOp r o).run P w = .ok (.value v) w := by
  rw [← hx]; unfold execOp; simp only [h]; rfl
theorem run_extract {P : Program} {r : Operand → Value} {o : Oper} {x : Operand} {n : Nat} {ux v : Value} {w : World} (h : o.op = .extract x n) (hx : r x = ux) (hr : (Instr.extract ux n).run P w = .ok v w) : (execOp r o).run P w = .ok (.value v) w := by
  unfold execOp; simp only [h, hx, Sem.run_bind, hr, Result.andThen_ok, Sem.run_pure]
theorem run_alloc {P : Program} {r : Operand → Value} {o : Oper} {t : TypeId} {v : Value} {w w' : World} (h : o.op = .alloc t) (hr : (Instr.alloc t true (.tuple #[])).run P w = .ok v w') : (execOp r o).run P w = .ok (.value v) w' := by
  unfold execOp; simp only [h, Sem.run_bind, hr, Result.andThen_ok, Sem.run_pure]
theorem map_three {f : Operand → Value} {x y z : Operand} {u v t : Value} (hx : f x = u) (hy : f y = v) (hz : f z = t) : #[x, y, z].map f = #[u, v, t] := by simp [hx, hy, hz]
theorem map_four {f : Operand → Value} {x y z q : Operand} {u v t s : Value} (hx : f x = u) (hy : f y = v) (hz : f z = t) (hq : f q = s) : #[x, y, z, q].map f = #[u, v, t, s] := by simp [hx, hy, hz, hq]
theorem ext_fst (x y : Value) (P : Program) (w : World) : (Instr.extract (.tuple #[x, y]) 0).run P w = .ok x w := by go_simp
theorem ext_snd (x y : Value) (P : Program) (w : World) : (Instr.extract (.tuple #[x, y]) 1).run P w = .ok y w := by go_simp

theorem Tryz.sizePic : (Tryz.prog.info? 33).map (·.size) = some 3 := by kernel_rfl
theorem Tryz.sizeCod : (Tryz.prog.info? 66).map (·.size) = some 4 := by kernel_rfl
theorem idx_pic (bb o len cap j : Nat) (w : World) (hj : j < len) (hl : len ≤ 6) : (Instr.indexAt 22 (.slice (some ⟨bb, o, none⟩) len cap) (.int .i64 j)).run Tryz.prog w = .ok (.pointer (some ⟨bb, o + j * 3, none⟩)) w := by
  have h1 : (j : Int) < (len : Int) := by omega
  go_simp
theorem idx_pic0 (bb o len cap : Nat) (w : World) (hj : 0 < len) (hl : len ≤ 6) : (Instr.indexAt 22 (.slice (some ⟨bb, o, none⟩) len cap) (.int .i64 0)).run Tryz.prog w = .ok (.pointer (some ⟨bb, o, none⟩)) w := by
  have h1 : (0 : Int) < (len : Int) := by omega
  go_simp
theorem idx_cod (bb o len cap j : Nat) (w : World) (hj : j < len) (hl : len ≤ 6) : (Instr.indexAt 25 (.slice (some ⟨bb, o, none⟩) len cap) (.int .i64 j)).run Tryz.prog w = .ok (.pointer (some ⟨bb, o + j * 4, none⟩)) w := by
  have h1 : (j : Int) < (len : Int) := by omega
  go_simp
theorem fld_pic0 (bb o : Nat) (w : World) : (Instr.fieldAt 33 (.pointer (some ⟨bb, o, none⟩)) 0).run Tryz.prog w = .ok (.pointer (some ⟨bb, o, none⟩)) w := by
  go_simp
theorem fld_pic1 (bb o : Nat) (w : World) : (Instr.fieldAt 33 (.pointer (some ⟨bb, o, none⟩)) 1).run Tryz.prog w = .ok (.pointer (some ⟨bb, o + 1, none⟩)) w := by
  go_simp
theorem load_intF (g b : Nat) (x : Int) (w : World) (h : w.cell? ⟨g, b, none⟩ = some (.int .i64 x)) : (Instr.loadAt 3 (.pointer (some ⟨g, b, none⟩))).run Tryz.prog w = .ok (.int .i64 x) w := by
  go_simp
theorem load_pic (g b : Nat) (cs : Array Value) (w : World) (hcs : cs.size = 3) (h : w.rangeAt g b cs.toList) : (Instr.loadAt 33 (.pointer (some ⟨g, b, none⟩))).run Tryz.prog w = .ok (.agg cs) w := by
  have h9 := run_loadAt_mid (P := Tryz.prog) w g b 33 cs.toList _ h Tryz.underlying33 rfl (by rw [Array.length_toList, hcs]; exact Tryz.sizePic)
  rw [Array.toArray_toList] at h9
  exact h9
theorem load_cod (g b : Nat) (cs : Array Value) (w : World) (hcs : cs.size = 4) (h : w.rangeAt g b cs.toList) : (Instr.loadAt 66 (.pointer (some ⟨g, b, none⟩))).run Tryz.prog w = .ok (.agg cs) w := by
  have h9 := run_loadAt_mid (P := Tryz.prog) w g b 66 cs.toList _ h Tryz.underlying66 rfl (by rw [Array.length_toList, hcs]; exact Tryz.sizeCod)
  rw [Array.toArray_toList] at h9
  exact h9
theorem alloc_pic (w : World) : (Instr.alloc 33 true (.tuple #[])).run Tryz.prog w = .ok (.pointer (some ⟨w.heap.size, 0, none⟩)) (w.alloc (.cells #[.int .i64 0, .int .i64 0, .slice none 0 0] 33)) := by
  go_simp
theorem alloc_cod (w : World) : (Instr.alloc 66 true (.tuple #[])).run Tryz.prog w = .ok (.pointer (some ⟨w.heap.size, 0, none⟩)) (w.alloc (.cells #[.bool false, .int .i64 0, .int .i64 0, .slice none 0 0] 66)) := by
  go_simp

theorem agg_pic {w : World} {b o : Nat} {x y : Int} {s : Value} (h0 : w.cell? ⟨b, o, none⟩ = some (.int .i64 x)) (h1 : w.cell? ⟨b, o + 1, none⟩ = some (.int .i64 y)) (h2 : w.cell? ⟨b, o + 2, none⟩ = some s) : w.rangeAt b o (#[.int .i64 x, .int .i64 y, s] : Array Value).toList := fun j v hj => by
  match j, hj with
  | 0, hj => cases hj; exact h0
  | 1, hj => cases hj; exact h1
  | 2, hj => cases hj; exact h2
theorem agg_cod {w : World} {b o : Nat} {al : Bool} {x y : Int} {s : Value} (h0 : w.cell? ⟨b, o, none⟩ = some (.bool al)) (h1 : w.cell? ⟨b, o + 1, none⟩ = some (.int .i64 x)) (h2 : w.cell? ⟨b, o + 2, none⟩ = some (.int .i64 y)) (h3 : w.cell? ⟨b, o + 3, none⟩ = some s) : w.rangeAt b o (#[.bool al, .int .i64 x, .int .i64 y, s] : Array Value).toList := fun j v hj => by
  match j, hj with
  | 0, hj => cases hj; exact h0
  | 1, hj => cases hj; exact h1
  | 2, hj => cases hj; exact h2
  | 3, hj => cases hj; exact h3
theorem pic_agg {w : World} {b : Nat} {x y : Int} {s : Value} (h : w.rangeAt b 0 (#[.int .i64 x, .int .i64 y, s] : Array Value).toList) (ht : w.there b 0 3) : PicIn w b x y s :=
  ⟨⟨by simpa using h 0 _ rfl, by simpa using (ht 0 (by decide)).2⟩, ⟨by simpa using h 1 _ rfl, by simpa using (ht 1 (by decide)).2⟩, by simpa using h 2 _ rfl, by simpa using (ht 2 (by decide)).2⟩
theorem ints_sets {w : World} {x : Nat} {v : Value} {n : Nat} {f : Nat → Int} (hv : ∀ k, v.ownBlock = some k → k ≠ x) : ∀ (cs : List Value) (o : Nat) (w : World), IntsIn w v n f → IntsIn (w.setCells x o cs) v n f
  | [], _, _, h => h
  | c :: cs, o, w, h => by
    refine ints_sets (w := w) hv cs (o + 1) _ ?_
    rcases h with h | ⟨h0, g, og, c', rfl, hc⟩
    · exact Or.inl h
    · refine Or.inr ⟨h0, g, og, c', rfl, fun i hi => ?_⟩
      rw [World.cell?_setCell_other _ _ _ _ (fun e => hv g rfl (congrArg Addr.block e).symm)]
      exact hc i hi
end Go.Proofs.YtjhflcgphejddaaGreatDoor

namespace Go.Proofs.YtjhflcgphejddaaGreatDoor
open Go.RowKit
set_option linter.unusedVariables false
set_option maxRecDepth 100000

def opsGx0 : Oper := { dst := some 54, op := Op.load 33 (Operand.tmp 11), type := 33, pos := "film.go:49", after := #[], guard := none }
def opsGx1 : Oper := { dst := some 55, op := Op.move (Operand.tmp 3), type := 25, pos := "film.go:49", after := #[], guard := none }
def opsGx2 : Oper := { dst := some 56, op := Op.move (Operand.tmp 13), type := 3, pos := "film.go:49", after := #[], guard := none }
def opsGx3 : Oper := { dst := some 57, op := Op.indexAddr 25 (Operand.tmp 55) (Operand.tmp 56), type := 0, pos := "film.go:49", after := #[{ on := 1, ground := Ground.data }, { on := 2, ground := Ground.data }], guard := none }
def opsGx4 : Oper := { dst := some 58, op := Op.load 66 (Operand.tmp 57), type := 66, pos := "film.go:49", after := #[{ on := 3, ground := Ground.data }], guard := none }
def opsGx5 : Oper := { dst := some 59, op := Op.move (Operand.tmp 2), type := 3, pos := "film.go:49", after := #[], guard := none }
def opsGx6 : Oper := { dst := some 60, op := Op.call { callee := Callee.value (Operand.func 23), args := #[Operand.tmp 54, Operand.tmp 58, Operand.tmp 59], argTypes := #[33, 66, 3] }, type := 69, pos := "film.go:49", after := #[{ on := 0, ground := Ground.data }, { on := 4, ground := Ground.data }, { on := 5, ground := Ground.data }], guard := none }
def opsGx7 : Oper := { dst := some 53, op := Op.move (Operand.tmp 60), type := 69, pos := "film.go:49", after := #[{ on := 6, ground := Ground.data }], guard := none }
def opsGx8 : Oper := { dst := some 61, op := Op.extract (Operand.tmp 53) 0, type := 33, pos := "film.go:49", after := #[{ on := 7, ground := Ground.data }], guard := none }
def opsGx9 : Oper := { dst := some 62, op := Op.extract (Operand.tmp 53) 1, type := 27, pos := "film.go:49", after := #[{ on := 7, ground := Ground.data }, { on := 11, ground := Ground.gcOnly Departure.lateStores }], guard := none }
def opsGx10 : Oper := { dst := some 14, op := Op.alloc 33, type := 0, pos := "film.go:49", after := #[], guard := none }
def opsGx11 : Oper := { dst := none, op := Op.store 33 (Operand.tmp 14) (Operand.tmp 61), type := 0, pos := "film.go:49", after := #[{ on := 10, ground := Ground.data }, { on := 8, ground := Ground.data }, { on := 6, ground := Ground.chain }, { on := 0, ground := Ground.phase }, { on := 1, ground := Ground.phase }, { on := 2, ground := Ground.phase }, { on := 3, ground := Ground.phase }, { on := 4, ground := Ground.phase }, { on := 5, ground := Ground.phase }, { on := 6, ground := Ground.phase }, { on := 7, ground := Ground.phase }, { on := 8, ground := Ground.phase }, { on := 9, ground := Ground.textOnly Departure.lateStores }, { on := 10, ground := Ground.phase }], guard := none }
def opsGx12 : Oper := { dst := some 15, op := Op.assign (Operand.tmp 62), type := 27, pos := "film.go:49", after := #[{ on := 9, ground := Ground.data }, { on := 11, ground := Ground.chain }, { on := 0, ground := Ground.phase }, { on := 1, ground := Ground.phase }, { on := 2, ground := Ground.phase }, { on := 3, ground := Ground.phase }, { on := 4, ground := Ground.phase }, { on := 5, ground := Ground.phase }, { on := 6, ground := Ground.phase }, { on := 7, ground := Ground.phase }, { on := 8, ground := Ground.phase }, { on := 9, ground := Ground.phase }, { on := 10, ground := Ground.phase }, { on := 11, ground := Ground.phase }], guard := none }
def opsG : Array Oper := #[opsGx0, opsGx1, opsGx2, opsGx3, opsGx4, opsGx5, opsGx6, opsGx7, opsGx8, opsGx9, opsGx10, opsGx11, opsGx12]
theorem atopsGx0 : opsG[0]? = some opsGx0 := rfl
theorem atopsGx1 : opsG[1]? = some opsGx1 := rfl
theorem atopsGx2 : opsG[2]? = some opsGx2 := rfl
theorem atopsGx3 : opsG[3]? = some opsGx3 := rfl
theorem atopsGx4 : opsG[4]? = some opsGx4 := rfl
theorem atopsGx5 : opsG[5]? = some opsGx5 := rfl
theorem atopsGx6 : opsG[6]? = some opsGx6 := rfl
theorem atopsGx7 : opsG[7]? = some opsGx7 := rfl
theorem atopsGx8 : opsG[8]? = some opsGx8 := rfl
theorem atopsGx9 : opsG[9]? = some opsGx9 := rfl
theorem atopsGx10 : opsG[10]? = some opsGx10 := rfl
theorem atopsGx11 : opsG[11]? = some opsGx11 := rfl
theorem atopsGx12 : opsG[12]? = some opsGx12 := rfl

set_option maxHeartbeats 1000000 in
theorem regionG {Q : Exit → Act → World → Prop} {a : Act} {w : World} (bb o N cap j x11 : Nat) (st : Int) (ca ck : Array Value) (er : Value) (cc : Option Addr → Nat → Array Value) (R : World → World → Option Addr → Nat → Prop) (hs : a.tmps.size = 73)
    (h3 : a.eval (.tmp 3) = (.slice (some ⟨bb, o, none⟩) N cap)) (h2 : a.eval (.tmp 2) = .int .i64 st) (h11 : a.eval (.tmp 11) = .pointer (some ⟨x11, 0, none⟩)) (h13 : a.eval (.tmp 13) = .int .i64 j) (hj : j < N) (hN : N ≤ 6) (hca : ca.size = 3) (hck : ck.size = 4) (hra : w.rangeAt x11 0 ca.toList) (hrk : w.rangeAt bb (o + j * 4) ck.toList)
    (hcs : ∀ ad cp, (cc ad cp).size = 3) (hone : ∀ ad cp, (cc ad cp).all (·.oneCell') = true)
    (hR1 : ∀ W W1 W2 ad cp, R W W1 ad cp → Below W1.heap.size W1 W2 → R W W2 ad cp)
    (hR2 : ∀ W W1 ad cp (x : Nat) cells {W2 : World}, R W W1 ad cp → Below W1.heap.size W1 W2 → W.heap.size ≤ W1.heap.size → R W (W2.setCells W1.heap.size 0 cells) ad cp)
    (hR3 : ∀ W W1 ad cp (x : Nat) cells, R W W1 ad cp → x < W.heap.size → R W (W1.setCells x 0 cells) ad cp)
    (KC : ∀ W, Below w.heap.size w W → Calls Tryz.prog 23 #[.agg ca, .agg ck, .int .i64 st] W fun e w' => ∃ ad cp, e = .returned (.tuple #[.agg (cc ad cp), er]) ∧ R W w' ad cp ∧ Below W.heap.size W w')
    (hQ : ∀ c a (d : Tmp) v w, Q (.panic c) (Act.put a (some d) v) w → Q (.panic c) a w)
    (hend : ∀ W W0 ad cp x, Below w.heap.size w W → Below w.heap.size w W0 → w.heap.size ≤ x → W.rangeAt x 0 (cc ad cp).toList → W.there x 0 3 → R W0 W ad cp → Q .normal ((((((((((((a.put (some 54) (.agg ca)).put (some 55) (.slice (some ⟨bb, o, none⟩) N cap)).put (some 56) (.int .i64 j)).put (some 57) (.pointer (some ⟨bb, o + j * 4, none⟩))).put (some 58) (.agg ck)).put (some 59) (.int .i64 st)).put (some 60) (.tuple #[.agg (cc ad cp), er])).put (some 53) (.tuple #[.agg (cc ad cp), er])).put (some 61) (.agg (cc ad cp))).put (some 62) er).put (some 14) (.pointer (some ⟨x, 0, none⟩))).put (some 15) er) W) :
    (Code.region 13 opsG true).wp Tryz.prog Q a w := by
  refine wp_region_held (S := fun W => Below w.heap.size w W) (by kernel_rfl) ?_
  show wpAnyH _ _ _ _ _ 13 (Array.replicate 13 false) a w.drew
  have hb0 : Below w.heap.size w w.drew := (Below.refl _ _).drew
  generalize w.drew = w0 at *
  refine anyH_take (i := 0) (d := 54) (v := (.agg ca)) atopsGx0 rfl (by kernel_rfl) (by kernel_rfl) (by kernel_rfl) rfl hQ hb0 (fun W hW => (run_load rfl h11 (load_pic x11 0 ca W hca (range_below hra hW)))) ?_
  refine anyH_take (i := 1) (d := 55) (v := (.slice (some ⟨bb, o, none⟩) N cap)) atopsGx1 rfl (by kernel_rfl) (by kernel_rfl) (by kernel_rfl) rfl hQ hb0 (fun W hW => (run_move rfl (Act.ev_ne (by decide) h3) W)) ?_
  refine anyH_take (i := 2) (d := 56) (v := (.int .i64 j)) atopsGx2 rfl (by kernel_rfl) (by kernel_rfl) (by kernel_rfl) rfl hQ hb0 (fun W hW => (run_move rfl (Act.ev_ne (by decide) (Act.ev_ne (by decide) h13)) W)) ?_
  refine anyH_take (i := 3) (d := 57) (v := (.pointer (some ⟨bb, o + j * 4, none⟩))) atopsGx3 rfl (by kernel_rfl) (by kernel_rfl) (by kernel_rfl) rfl hQ hb0 (fun W hW => (run_index rfl (Act.ev_ne (by decide) (Act.ev_eq (Act.sz hs) (by decide))) (Act.ev_eq (Act.sz (Act.sz hs)) (by decide)) (idx_cod bb o N cap j W hj hN))) ?_
  refine anyH_take (i := 4) (d := 58) (v := (.agg ck)) atopsGx4 rfl (by kernel_rfl) (by kernel_rfl) (by kernel_rfl) rfl hQ hb0 (fun W hW => (run_load rfl (Act.ev_eq (Act.sz (Act.sz (Act.sz hs))) (by decide)) (load_cod bb (o + j * 4) ck W hck (range_below hrk hW)))) ?_
  refine anyH_take (i := 5) (d := 59) (v := (.int .i64 st)) atopsGx5 rfl (by kernel_rfl) (by kernel_rfl) (by kernel_rfl) rfl hQ hb0 (fun W hW => (run_move rfl (Act.ev_ne (by decide) (Act.ev_ne (by decide) (Act.ev_ne (by decide) (Act.ev_ne (by decide) (Act.ev_ne (by decide) h2))))) W)) ?_
  refine anyH_two (i := 6) (j := 10) (by kernel_rfl) atopsGx6 rfl atopsGx10 rfl (fun K hK => ?_) (fun K hK => ?_)
  · refine wp_call_at (R := fun v w' => ∃ ad cp, v = (.tuple #[.agg (cc ad cp), er]) ∧ R w0 w' ad cp ∧ Below w0.heap.size w0 w') #[.agg ca, .agg ck, .int .i64 st] (d := 60) rfl rfl (map_three (Act.ev_ne (by decide) (Act.ev_ne (by decide) (Act.ev_ne (by decide) (Act.ev_ne (by decide) (Act.ev_ne (by decide) (Act.ev_eq hs (by decide))))))) (Act.ev_ne (by decide) (Act.ev_eq (Act.sz (Act.sz (Act.sz (Act.sz hs)))) (by decide))) (Act.ev_eq (Act.sz (Act.sz (Act.sz (Act.sz (Act.sz hs))))) (by decide))) (by go_simp) ((KC w0 hb0).mono fun e w' h => by obtain ⟨ad, cp, he, hr, hb⟩ := h; exact ⟨_, he, ad, cp, rfl, hr, hb⟩) (fun v w1 hv => ?_)
    obtain ⟨ad, cp, rfl, hr, hb⟩ := hv
    have hbw1 := below_two hb0 hb
    refine hK _ _ hbw1 ?_
    clear hK
    refine anyH_take (i := 7) (d := 53) (v := (.tuple #[.agg (cc ad cp), er])) atopsGx7 rfl (by kernel_rfl) (by kernel_rfl) (by kernel_rfl) rfl hQ hbw1 (fun W hW => (run_move rfl (Act.ev_eq (Act.sz (Act.sz (Act.sz (Act.sz (Act.sz (Act.sz hs)))))) (by decide)) W)) ?_
    refine anyH_take (i := 8) (d := 61) (v := (.agg (cc ad cp))) atopsGx8 rfl (by kernel_rfl) (by kernel_rfl) (by kernel_rfl) rfl hQ hbw1 (fun W hW => (run_extract rfl (Act.ev_eq (Act.sz (Act.sz (Act.sz (Act.sz (Act.sz (Act.sz (Act.sz hs))))))) (by decide)) (ext_fst _ _ _ W))) ?_
    refine anyH_take (i := 9) (d := 62) (v := er) atopsGx9 rfl (by kernel_rfl) (by kernel_rfl) (by kernel_rfl) rfl hQ hbw1 (fun W hW => (run_extract rfl (Act.ev_ne (by decide) (Act.ev_eq (Act.sz (Act.sz (Act.sz (Act.sz (Act.sz (Act.sz (Act.sz hs))))))) (by decide))) (ext_snd _ _ _ W))) ?_
    refine anyH_one (i := 10) (by kernel_rfl) atopsGx10 rfl (fun K hK => ?_)
    have hba := (Below.refl w1.heap.size w1).alloc (Nat.le_refl _) (.cells #[.int .i64 0, .int .i64 0, .slice none 0 0] 33)
    have hbw2 := below_two hbw1 hba
    refine wp_value_to (d := 14) rfl (run_alloc rfl (alloc_pic w1)) (hK _ _ hbw2 ?_)
    clear hK K
    have ht := there_new w1 #[.int .i64 0, .int .i64 0, .slice none 0 0] 33
    have hr2 := hR1 _ _ _ _ _ hr hba
    have hx := hbw1.size
    have hle := hb.size
    have hr3 := fun cells => hR2 w0 _ ad cp w1.heap.size cells hr hba hle
    generalize w1.alloc (.cells #[.int .i64 0, .int .i64 0, .slice none 0 0] 33) = w2 at *
    refine anyH_one (i := 11) (by kernel_rfl) atopsGx11 rfl (fun K hK => ?_)
    refine wp_store_at 33 _ _ rfl rfl w1.heap.size 0 (cc ad cp) (Act.ev_eq (Act.sz (Act.sz (Act.sz (Act.sz (Act.sz (Act.sz (Act.sz (Act.sz (Act.sz (Act.sz hs)))))))))) (by decide)) (Act.ev_ne (by decide) (Act.ev_ne (by decide) (Act.ev_eq (Act.sz (Act.sz (Act.sz (Act.sz (Act.sz (Act.sz (Act.sz (Act.sz hs)))))))) (by decide)))) (by rw [hcs]; exact ht) (by rw [hcs]; exact Tryz.sizePic) (hone _ _) (hK _ _ (sets_belowF hx _ _ _ hbw2) ?_)
    clear hK K
    have hth : w2.there w1.heap.size 0 (cc ad cp).size := by rw [hcs]; exact ht
    have hrg := World.rangeAt_setCells_same w2 w1.heap.size 0 (cc ad cp).toList (by rw [Array.length_toList]; exact hth)
    have htt := World.there_setCells (ht) w1.heap.size 0 (cc ad cp).toList
    refine anyH_one (i := 12) (by kernel_rfl) atopsGx12 rfl (fun K hK => ?_)
    refine wp_value_at (d := 15) rfl (run_assign rfl (Act.ev_ne (by decide) (Act.ev_eq (Act.sz (Act.sz (Act.sz (Act.sz (Act.sz (Act.sz (Act.sz (Act.sz (Act.sz hs))))))))) (by decide))) _) (hK _ _ (sets_belowF hx _ _ _ hbw2) ?_)
    clear hK K
    exact wpAnyH_done (by kernel_rfl) (hend _ _ ad cp w1.heap.size (sets_belowF hx _ _ _ hbw2) hb0 hx hrg htt (hr3 _)) _
  · have hba := (Below.refl w0.heap.size w0).alloc (Nat.le_refl _) (.cells #[.int .i64 0, .int .i64 0, .slice none 0 0] 33)
    have hbw1 := below_two hb0 hba
    refine wp_value_to (d := 14) rfl (run_alloc rfl (alloc_pic w0)) (hK _ _ hbw1 ?_)
    clear hK
    have ht := there_new w0 #[.int .i64 0, .int .i64 0, .slice none 0 0] 33
    have hx := hb0.size
    have hlt : w0.heap.size < (w0.alloc (.cells #[.int .i64 0, .int .i64 0, .slice none 0 0] 33)).heap.size := by simp
    generalize w0.heap.size = x at *
    generalize w0.alloc (.cells #[.int .i64 0, .int .i64 0, .slice none 0 0] 33) = w1 at *
    refine anyH_one (i := 6) (by kernel_rfl) atopsGx6 rfl (fun K1 hK1 => ?_)
    refine wp_call_at (R := fun v w' => ∃ ad cp, v = (.tuple #[.agg (cc ad cp), er]) ∧ R w1 w' ad cp ∧ Below w1.heap.size w1 w') #[.agg ca, .agg ck, .int .i64 st] (d := 60) rfl rfl (map_three (Act.ev_ne (by decide) (Act.ev_ne (by decide) (Act.ev_ne (by decide) (Act.ev_ne (by decide) (Act.ev_ne (by decide) (Act.ev_ne (by decide) (Act.ev_eq hs (by decide)))))))) (Act.ev_ne (by decide) (Act.ev_ne (by decide) (Act.ev_eq (Act.sz (Act.sz (Act.sz (Act.sz hs)))) (by decide)))) (Act.ev_ne (by decide) (Act.ev_eq (Act.sz (Act.sz (Act.sz (Act.sz (Act.sz hs))))) (by decide)))) (by go_simp) ((KC w1 hbw1).mono fun e w' h => by obtain ⟨ad, cp, he, hr, hb⟩ := h; exact ⟨_, he, ad, cp, rfl, hr, hb⟩) (fun v w2 hv => ?_)
    obtain ⟨ad, cp, rfl, hr, hb⟩ := hv
    have hbw2 := below_two hbw1 hb
    refine hK1 _ _ hbw2 ?_
    clear hK1
    refine anyH_take (i := 7) (d := 53) (v := (.tuple #[.agg (cc ad cp), er])) atopsGx7 rfl (by kernel_rfl) (by kernel_rfl) (by kernel_rfl) rfl hQ hbw2 (fun W hW => (run_move rfl (Act.ev_eq (Act.sz (Act.sz (Act.sz (Act.sz (Act.sz (Act.sz (Act.sz hs))))))) (by decide)) W)) ?_
    refine anyH_take (i := 8) (d := 61) (v := (.agg (cc ad cp))) atopsGx8 rfl (by kernel_rfl) (by kernel_rfl) (by kernel_rfl) rfl hQ hbw2 (fun W hW => (run_extract rfl (Act.ev_eq (Act.sz (Act.sz (Act.sz (Act.sz (Act.sz (Act.sz (Act.sz (Act.sz hs)))))))) (by decide)) (ext_fst _ _ _ W))) ?_
    refine anyH_take (i := 9) (d := 62) (v := er) atopsGx9 rfl (by kernel_rfl) (by kernel_rfl) (by kernel_rfl) rfl hQ hbw2 (fun W hW => (run_extract rfl (Act.ev_ne (by decide) (Act.ev_eq (Act.sz (Act.sz (Act.sz (Act.sz (Act.sz (Act.sz (Act.sz (Act.sz hs)))))))) (by decide))) (ext_snd _ _ _ W))) ?_
    rw [Act.put_swap _ (.pointer (some ⟨x, 0, none⟩)) (.tuple #[.agg (cc ad cp), er]) (show (14 : Nat) ≠ 60 by decide), Act.put_swap _ (.pointer (some ⟨x, 0, none⟩)) (.tuple #[.agg (cc ad cp), er]) (show (14 : Nat) ≠ 53 by decide), Act.put_swap _ (.pointer (some ⟨x, 0, none⟩)) (.agg (cc ad cp)) (show (14 : Nat) ≠ 61 by decide), Act.put_swap _ (.pointer (some ⟨x, 0, none⟩)) er (show (14 : Nat) ≠ 62 by decide)]
    have ht2 := there_below ht hb
    have hr3 := fun cells => hR3 w1 w2 ad cp x cells hr hlt
    refine anyH_one (i := 11) (by kernel_rfl) atopsGx11 rfl (fun K hK => ?_)
    refine wp_store_at 33 _ _ rfl rfl x 0 (cc ad cp) (Act.ev_eq (Act.sz (Act.sz (Act.sz (Act.sz (Act.sz (Act.sz (Act.sz (Act.sz (Act.sz (Act.sz hs)))))))))) (by decide)) (Act.ev_ne (by decide) (Act.ev_ne (by decide) (Act.ev_eq (Act.sz (Act.sz (Act.sz (Act.sz (Act.sz (Act.sz (Act.sz (Act.sz hs)))))))) (by decide)))) (by rw [hcs]; exact ht2) (by rw [hcs]; exact Tryz.sizePic) (hone _ _) (hK _ _ (sets_belowF hx _ _ _ hbw2) ?_)
    clear hK K
    have hth : w2.there x 0 (cc ad cp).size := by rw [hcs]; exact ht2
    have hrg := World.rangeAt_setCells_same w2 x 0 (cc ad cp).toList (by rw [Array.length_toList]; exact hth)
    have htt := World.there_setCells (ht2) x 0 (cc ad cp).toList
    refine anyH_one (i := 12) (by kernel_rfl) atopsGx12 rfl (fun K hK => ?_)
    refine wp_value_at (d := 15) rfl (run_assign rfl (Act.ev_ne (by decide) (Act.ev_eq (Act.sz (Act.sz (Act.sz (Act.sz (Act.sz (Act.sz (Act.sz (Act.sz (Act.sz hs))))))))) (by decide))) _) (hK _ _ (sets_belowF hx _ _ _ hbw2) ?_)
    clear hK K
    exact wpAnyH_done (by kernel_rfl) (hend _ _ ad cp x (sets_belowF hx _ _ _ hbw2) hbw1 hx hrg htt (hr3 _)) _
end Go.Proofs.YtjhflcgphejddaaGreatDoor

namespace Go.Proofs.YtjhflcgphejddaaGreatDoor
open Go.RowKit
set_option linter.unusedVariables false
set_option maxRecDepth 100000

def opsHx0 : Oper := { dst := some 66, op := Op.move (Operand.tmp 12), type := 22, pos := "film.go:53", after := #[], guard := none }
def opsHx1 : Oper := { dst := some 67, op := Op.load 33 (Operand.tmp 14), type := 33, pos := "film.go:53", after := #[], guard := none }
def opsHx2 : Oper := { dst := some 68, op := Op.buildSlice 22 1 #[(0, Operand.tmp 67)], type := 22, pos := "film.go:53", after := #[{ on := 1, ground := Ground.data }], guard := none }
def opsHx3 : Oper := { dst := some 69, op := Op.call { callee := Callee.builtin Builtin.append, args := #[Operand.tmp 66, Operand.tmp 68], argTypes := #[22, 22] }, type := 22, pos := "film.go:53", after := #[{ on := 0, ground := Ground.data }, { on := 2, ground := Ground.data }], guard := none }
def opsHx4 : Oper := { dst := some 70, op := Op.load 33 (Operand.tmp 14), type := 33, pos := "film.go:53", after := #[{ on := 5, ground := Ground.gcOnly Departure.lateStores }], guard := none }
def opsHx5 : Oper := { dst := some 12, op := Op.assign (Operand.tmp 69), type := 22, pos := "film.go:53", after := #[{ on := 3, ground := Ground.data }, { on := 3, ground := Ground.chain }, { on := 0, ground := Ground.phase }, { on := 1, ground := Ground.phase }, { on := 2, ground := Ground.phase }, { on := 3, ground := Ground.phase }, { on := 4, ground := Ground.textOnly Departure.lateStores }], guard := none }
def opsHx6 : Oper := { dst := none, op := Op.store 33 (Operand.tmp 11) (Operand.tmp 70), type := 0, pos := "film.go:53", after := #[{ on := 4, ground := Ground.data }, { on := 5, ground := Ground.chain }, { on := 0, ground := Ground.phase }, { on := 1, ground := Ground.phase }, { on := 2, ground := Ground.phase }, { on := 3, ground := Ground.phase }, { on := 4, ground := Ground.phase }, { on := 5, ground := Ground.phase }], guard := none }
def opsH : Array Oper := #[opsHx0, opsHx1, opsHx2, opsHx3, opsHx4, opsHx5, opsHx6]
theorem atopsHx0 : opsH[0]? = some opsHx0 := rfl
theorem atopsHx1 : opsH[1]? = some opsHx1 := rfl
theorem atopsHx2 : opsH[2]? = some opsHx2 := rfl
theorem atopsHx3 : opsH[3]? = some opsHx3 := rfl
theorem atopsHx4 : opsH[4]? = some opsHx4 := rfl
theorem atopsHx5 : opsH[5]? = some opsHx5 := rfl
theorem atopsHx6 : opsH[6]? = some opsHx6 := rfl
theorem own_belowF {w w' : World} {B e size n : Nat} {v : Value} {xs : List Value} (h : w.ownsRow B e size v n xs) (hb : Below w.heap.size w w') : w'.ownsRow B e size v n xs := by
  refine ⟨h.1, ?_⟩
  rcases h.2 with hn | ⟨g, cap, cur, hv, h1, hgg, rest⟩
  · exact .inl hn
  · exact .inr ⟨g, cap, cur, hv, h1, (hb.block g (Array.getElem?_eq_some_iff.1 hgg).1).trans hgg, rest⟩
theorem build_opsH {r : Operand → Value} {qa qb : Int} {qd : Option Addr} {qn qc : Nat} (h67 : r (.tmp 67) = .agg #[.int .i64 qa, .int .i64 qb, .slice qd qn qc]) (w : World) : (execOp r opsHx2).run Tryz.prog w = .ok (.value (.slice (some ⟨w.heap.size, 0, none⟩) 1 1)) (w.alloc (.cells #[.int .i64 qa, .int .i64 qb, .slice qd qn qc] 33)) := by
  unfold execOp opsHx2
  simp only [List.map_toArray, List.map_cons, List.map_nil, h67]
  go_simp
set_option maxHeartbeats 1000000 in
theorem regionH {Q : Exit → Act → World → Prop} {a : Act} {w : World} (B x11 x14 j : Nat) (v : Value) (xs : List Value) (qa qb : Int) (qd : Option Addr) (qn qc : Nat) (hs : a.tmps.size = 73)
    (h12 : a.eval (.tmp 12) = v) (h14 : a.eval (.tmp 14) = .pointer (some ⟨x14, 0, none⟩)) (h11 : a.eval (.tmp 11) = .pointer (some ⟨x11, 0, none⟩)) (hown : w.ownsRow B 33 3 v j xs) (hB : B ≤ w.heap.size) (hj : j ≤ 6)
    (hR : w.rangeAt x14 0 (#[.int .i64 qa, .int .i64 qb, .slice qd qn qc] : Array Value).toList) (hth : w.there x11 0 3) (h14n : v.ownBlock ≠ some x14) (h11n : v.ownBlock ≠ some x11) (hap : x14 ≠ x11)
    (hQ : ∀ c a (d : Tmp) v w, Q (.panic c) (Act.put a (some d) v) w → Q (.panic c) a w)
    (hend : ∀ w1 w5 g cap n0, n0 = w.drew.heap.size → w1 = w.drew.alloc (.cells #[.int .i64 qa, .int .i64 qb, .slice qd qn qc] 33) → w5.ownsRow B 33 3 (.slice (some ⟨g, 0, none⟩) (j + 1) cap) (j + 1) (xs ++ [.int .i64 qa, .int .i64 qb, .slice qd qn qc]) → w1.grownBy w5 v.ownBlock → (v.ownBlock = some g ∨ g = w1.heap.size) → g < w5.heap.size → Q .normal ((((((a.put (some 66) v).put (some 67) (.agg #[.int .i64 qa, .int .i64 qb, .slice qd qn qc])).put (some 70) (.agg #[.int .i64 qa, .int .i64 qb, .slice qd qn qc])).put (some 68) (.slice (some ⟨n0, 0, none⟩) 1 1)).put (some 69) (.slice (some ⟨g, 0, none⟩) (j + 1) cap)).put (some 12) (.slice (some ⟨g, 0, none⟩) (j + 1) cap)) (w5.setCells x11 0 (#[.int .i64 qa, .int .i64 qb, .slice qd qn qc] : Array Value).toList)) :
    (Code.region 16 opsH true).wp Tryz.prog Q a w := by
  obtain ⟨i0, hi0, hz0, hz1, hz2⟩ := info_parts Tryz.infoPic
  refine wp_region_held (S := fun W => W.rangeAt x14 0 (#[.int .i64 qa, .int .i64 qb, .slice qd qn qc] : Array Value).toList) (by kernel_rfl) ?_
  show wpAnyH _ _ _ _ _ 7 (Array.replicate 7 false) a w.drew
  have hS0 : w.drew.rangeAt x14 0 (#[.int .i64 qa, .int .i64 qb, .slice qd qn qc] : Array Value).toList := (World.rangeAt_drew _ _ _ _).2 hR
  replace hth : w.drew.there x11 0 3 := (World.there_drew _ _ _ _).2 hth
  replace hown := own_belowF hown (Below.refl _ w).drew
  replace hB : B ≤ w.drew.heap.size := hB
  clear hR
  generalize w.drew = w0 at *
  refine anyH_take (i := 0) (d := 66) (v := v) atopsHx0 rfl (by kernel_rfl) (by kernel_rfl) (by kernel_rfl) rfl hQ hS0 (fun W hW => (run_move rfl h12 W)) ?_
  refine anyH_take (i := 1) (d := 67) (v := (.agg #[.int .i64 qa, .int .i64 qb, .slice qd qn qc])) atopsHx1 rfl (by kernel_rfl) (by kernel_rfl) (by kernel_rfl) rfl hQ hS0 (fun W hW => (run_load rfl (Act.ev_ne (by decide) h14) (load_pic x14 0 _ W rfl hW))) ?_
  refine anyH_take (i := 4) (d := 70) (v := (.agg #[.int .i64 qa, .int .i64 qb, .slice qd qn qc])) atopsHx4 rfl (by kernel_rfl) (by kernel_rfl) (by kernel_rfl) rfl hQ hS0 (fun W hW => (run_load rfl (Act.ev_ne (by decide) (Act.ev_ne (by decide) h14)) (load_pic x14 0 _ W rfl hW))) ?_
  have hba := (Below.refl w0.heap.size w0).alloc (Nat.le_refl _) (.cells #[.int .i64 qa, .int .i64 qb, .slice qd qn qc] 33)
  refine anyH_one (i := 2) (by kernel_rfl) atopsHx2 rfl (fun K hK => ?_)
  refine wp_value_to (d := 68) rfl (build_opsH (Act.ev_ne (by decide) (Act.ev_eq (Act.sz hs) (by decide))) w0) (hK _ _ (range_below hS0 hba) ?_)
  clear hK K
  have hlt14 : x14 < w0.heap.size := cell_lt (hS0 0 _ rfl)
  have hlt11 : x11 < w0.heap.size := by obtain ⟨u, hu⟩ := Option.isSome_iff_exists.1 (hth 0 (by decide)).1; exact cell_lt hu
  have hz : (w0.alloc (.cells #[.int .i64 qa, .int .i64 qb, .slice qd qn qc] 33)).heap.size = w0.heap.size + 1 := by simp
  have hnew := heap_alloc_new w0 (.cells #[.int .i64 qa, .int .i64 qb, .slice qd qn qc] 33)
  have hownA := hown.alloc (.cells #[.int .i64 qa, .int .i64 qb, .slice qd qn qc] 33)
  have hthA := there_below hth hba
  have hSA := range_below hS0 hba
  generalize hn0 : w0.heap.size = n0 at *
  generalize hw1 : w0.alloc (.cells #[.int .i64 qa, .int .i64 qb, .slice qd qn qc] 33) = w1 at *
  refine anyH_one (i := 3) (by kernel_rfl) atopsHx3 rfl (fun K hK => ⟨?_⟩)
  refine wp_append_lies _ (.tmp 66) (.tmp 68) 22 rfl B 33 i0 (.agg #[.int .i64 0, .int .i64 0, .slice none 0 0]) 3 40 Tryz.underlying22 hi0 hz0 hz1 hz2 rfl (by decide) v j xs (Act.ev_ne (by decide) (Act.ev_ne (by decide) (Act.ev_ne (by decide) (Act.ev_eq hs (by decide))))) hownA ⟨n0, 0, none⟩ 1 1 [.int .i64 qa, .int .i64 qb, .slice qd qn qc] (Act.ev_eq (Act.sz (Act.sz (Act.sz hs))) (by decide)) rfl (World.news_of_block (cs := #[.int .i64 qa, .int .i64 qb, .slice qd qn qc]) (t := 33) (fr := (0, 0)) hnew) (fun x hx => by simp at hx; rcases hx with rfl | rfl | rfl <;> rfl) (by decide) (by unfold maxLen; omega) (by omega) (by omega) w1.heap.size rfl (fun g cap w5 h1 h2 h3 h4 => hK _ _ ?_ ?_)
  · intro i u hu; rw [h2.cell_far ⟨x14, 0 + i, none⟩ (by show x14 < _; omega) (fun e => h14n e.symm)]; exact hSA i u hu
  have hS5 : w5.rangeAt x14 0 (#[.int .i64 qa, .int .i64 qb, .slice qd qn qc] : Array Value).toList := by intro i u hu; rw [h2.cell_far ⟨x14, 0 + i, none⟩ (by show x14 < _; omega) (fun e => h14n e.symm)]; exact hSA i u hu
  have hth5 : w5.there x11 0 3 := by intro i hi; rw [h2.cell_far ⟨x11, 0 + i, none⟩ (by show x11 < _; omega) (fun e => h11n e.symm), h2.frozen_far ⟨x11, 0 + i, none⟩ (by show x11 < _; omega) (fun e => h11n e.symm)]; exact hthA i hi
  clear hK K
  refine anyH_take (i := 5) (d := 12) (v := (.slice (some ⟨g, 0, none⟩) (j + 1) cap)) atopsHx5 rfl (by kernel_rfl) (by kernel_rfl) (by kernel_rfl) rfl hQ hS5 (fun W hW => (run_assign rfl (Act.ev_eq (Act.sz (Act.sz (Act.sz (Act.sz hs)))) (by decide)) W)) ?_
  refine anyH_one (i := 6) (by kernel_rfl) atopsHx6 rfl (fun K hK => ?_)
  refine wp_store_at 33 _ _ rfl rfl x11 0 #[.int .i64 qa, .int .i64 qb, .slice qd qn qc] (Act.ev_ne (by decide) (Act.ev_ne (by decide) (Act.ev_ne (by decide) (Act.ev_ne (by decide) (Act.ev_ne (by decide) (Act.ev_ne (by decide) h11)))))) (Act.ev_ne (by decide) (Act.ev_ne (by decide) (Act.ev_ne (by decide) (Act.ev_eq (Act.sz (Act.sz hs)) (by decide))))) hth5 Tryz.sizePic (all_oneCell_toArray (cs := [.int .i64 qa, .int .i64 qb, .slice qd qn qc]) (fun x hx => by simp at hx; rcases hx with rfl | rfl | rfl <;> rfl)) (hK _ _ ?_ ?_)
  · exact World.rangeAt_setCells_apart hS5 _ _ _ (Or.inl hap)
  · exact wpAnyH_done (by kernel_rfl) (hend w1 w5 g cap n0 rfl (by first | rfl | exact hw1.symm) h1 h2 h3 h4) _
end Go.Proofs.YtjhflcgphejddaaGreatDoor

namespace Go.Proofs.YtjhflcgphejddaaGreatDoor
open Go.RowKit Go.Maps
set_option linter.unusedVariables false
set_option maxRecDepth 100000

/-- What was told last, in the block b, apart from the row u. -/
structure AhdT (w : World) (b : Nat) (q : Pc) (B : Nat) (u : Value) (sd : Option Addr) (sc : Nat) : Prop where
  p : PicIn w b q.a q.b (.slice sd q.n sc)
  i : IntsIn w (.slice sd q.n sc) q.n q.f
  new : ∀ k, (Value.slice sd q.n sc).ownBlock = some k → B ≤ k
  off : ∀ k, (Value.slice sd q.n sc).ownBlock = some k → u.ownBlock ≠ some k
theorem there_pic {w : World} {b : Nat} {x y : Int} {s : Value} (h : PicIn w b x y s) : w.there b 0 3 := fun j hj => by
  obtain ⟨⟨c0, g0⟩, ⟨c1, g1⟩, c2, g2⟩ := h
  rw [Nat.zero_add]
  match j, hj with
  | 0, _ => exact ⟨by rw [c0]; rfl, g0⟩
  | 1, _ => exact ⟨by rw [c1]; rfl, g1⟩
  | 2, _ => exact ⟨by rw [c2]; rfl, g2⟩

set_option maxHeartbeats 8000000 in
theorem fdec_walk {w : World} {v : Value} {N : Nat} {C : Nat → Cd} (a b st : Int) (h : CodsIn w v N C) (hc0 : cntF N = 0) (hs0 : sidF a b st = 0) (ha0 : (C 0).al = true) :
    Calls Tryz.prog 16 #[.int .i64 a, .int .i64 b, .int .i64 st, v] w fun e w' => ((seeS a b st C N).1 ≠ 0 ∧ e = .returned (.tuple #[.slice none 0 0, errN (seeS a b st C N).1]) ∨ (seeS a b st C N).1 = 0 ∧ ∃ u, e = .returned (.tuple #[u, .nilIface]) ∧ PicsIn w' u N (seeP a b st C)) ∧ Below w.heap.size w w' := by
  have K := hide (fun w => fcount_ok N w)
  rw [hc0] at K
  obtain ⟨h1N, h6N⟩ := cntF_zero.1 hc0
  obtain ⟨ad, cap, rfl, _, _, h3⟩ := h
  obtain ⟨bb, o, rfl, hc⟩ := h3 (by omega)
  have HC := hide hc
  have HBb : Hid (bb < w.heap.size) := by obtain ⟨s9, h9⟩ := hc 0 (by omega); exact cell_lt h9.1
  obtain ⟨s0, hz0⟩ := hc 0 (by omega)
  rw [show o + 0 * 4 = o by omega] at hz0
  obtain ⟨c00, _, _, _, _⟩ := hz0
  rw [ha0] at c00
  have hin : ((inOk a 6 && inOk b 6) && inOk st 64) = true := by
    rw [sidF_in] at hs0
    split at hs0
    · rename_i c; exact c
    · cases hs0
  rw [Bool.and_eq_true, Bool.and_eq_true] at hin
  have K1 := hide (fun w => fwithin_ok a 6 w)
  have K2 := hide (fun w => fwithin_ok b 6 w)
  have K3 := hide (fun w => fwithin_ok st 64 w)
  rw [hin.1.1] at K1
  rw [hin.1.2] at K2
  rw [hin.2] at K3
  have K4 := hide (fun w => funseen_ok a b w)
  have HSt := hide (fun j (h : (seeS a b st C j).1 = 0) => ahdP_step ha0 h)
  have HAn := hide (fun j => ahdP_next (a := a) (b := b) (s := st) (C := C) (i := j))
  have HPs : Hid (∀ j, seeP a b st C j = (seeS a b st C (j + 1)).2) := fun _ => rfl
  have HSp := hide (fun i (h : (seeS a b st C i).1 ≠ 0) (hi : i ≤ N) => seeS_stop h hi)
  have HS0 : Hid ((seeS a b st C 0).1 = 0) := rfl
  have HA0 : Hid (ahdP a b st C 0 = ⟨a, b, 0, fun _ => 0⟩) := rfl
  generalize seeS a b st C = SS at *
  generalize seeP a b st C = PP at *
  generalize ahdP a b st C = AA at *
  obtain ⟨i0, hi0, hz0, hz1, hz2⟩ := info_parts Tryz.infoPic
  have hmk : ∃ mc : Array Value, mc.size = N * 3 ∧ ∀ W : World, (Instr.makeSlice 22 (.int .i64 0) (.int .i64 (N : Int))).run Tryz.prog W = .ok (.slice (some ⟨W.heap.size, 0, none⟩) 0 N) (W.alloc (.cells mc 33)) := by
    refine ⟨_, size_madeCells (Value.cells (.agg #[.int .i64 0, .int .i64 0, .slice none 0 0])) (N * 3), fun W => ?_⟩
    have hr := run_make (P := Tryz.prog) W 22 33 i0 _ Tryz.underlying22 hi0 hz0 .i64 .i64 0 N (Int.le_refl _) (by omega) (by rw [hz2]; omega) (by omega)
    simp only [Int.toNat_zero, Int.toNat_natCast, hz1] at hr
    exact hr
  obtain ⟨mc, hms, hmk⟩ := hmk
  have HMS := hide hms
  clear hc h3 hi0 hz0 hz1 hz2 hc0 hs0 hin hms ha0
  go_enter Tryz.func16, Tryz.ntmps16
  go_wp2_with fail
  refine (K.out _).mono ?_
  rintro e w1 ⟨rfl, rfl⟩
  rw [errN_zero]
  go_wp2_with fail
  refine (K1.out _).mono ?_
  rintro e w2 ⟨rfl, rfl⟩
  go_wp2_with fail
  refine (K2.out _).mono ?_
  rintro e w2 ⟨rfl, rfl⟩
  go_wp2_with fail
  refine (K3.out _).mono ?_
  rintro e w2 ⟨rfl, rfl⟩
  go_wp2_with fail
  refine (K4.out _).mono ?_
  rintro e w4 ⟨rfl, hb4⟩
  clear K K1 K2 K3 K4 c00
  obtain ⟨w6, hw6⟩ : ∃ w6, w6 = w4.alloc (.cells #[.int .i64 a, .int .i64 b, .slice none 0 0] 33) := ⟨_, rfl⟩
  have HP6 : Hid (PicIn w6 w4.heap.size a b (.slice none 0 0)) := hw6 ▸ picIn_new w4 a b (.slice none 0 0)
  have HB6 : Hid (Below w.heap.size w w6) := hw6 ▸ below_two hb4 ((Below.refl w4.heap.size w4).alloc (Nat.le_refl _) _)
  have hxw := hb4.size
  go_upto_region 9 with fail
  rw [← hw6]
  clear hw6 hb4
  have hxa2 : w4.heap.size < w6.heap.size := HP6.out.lt
  generalize w4.heap.size = xa at *
  have hmk6 := hmk w6
  have O6 := World.ownsRow_made (base := w6.heap.size) (e := 33) (size := 3) w6 mc N (Nat.le_refl _) (by unfold maxLen; omega) HMS.out
  have HP7 := hide (HP6.out.below ((Below.refl w6.heap.size w6).alloc (Nat.le_refl _) (.cells mc 33)))
  have HB7 : Hid (Below w.heap.size w (w6.alloc (.cells mc 33))) := below_two HB6.out ((Below.refl w6.heap.size w6).alloc (Nat.le_refl _) (.cells mc 33))
  have HR7 : Hid (PicR (w6.alloc (.cells mc 33)) w6.heap.size (.slice (some ⟨w6.heap.size, 0, none⟩) 0 N) 0 PP) :=
    ⟨fun _ => .slice none 0 0, O6, fun i hi => absurd hi (Nat.not_lt_zero _), fun i hi => absurd hi (Nat.not_lt_zero _), fun i hi => absurd hi (Nat.not_lt_zero _), fun i hi => absurd hi (Nat.not_lt_zero _)⟩
  have HZ7 : Hid (w6.heap.size ≤ (w6.alloc (.cells mc 33)).heap.size) := by unfold Hid; simp
  clear O6 hmk
  go_wp2
  generalize hBB : w6.heap.size = BB at *
  go_loopw [12, 50] (fun u i wr => ∃ (j : Nat) (adu : Option Addr) (cpu : Nat) (sd : Option Addr) (sc : Nat), j ≤ N ∧ i = .int .i64 j ∧ u = .slice adu j cpu ∧ Hid (PicR wr BB u j PP) ∧ Hid (AhdT wr xa (AA j) BB u sd sc) ∧ Hid ((SS j).1 = 0) ∧ Hid (BB ≤ wr.heap.size) ∧ Below w.heap.size w wr) (fun _ i _ => N - (intOf i).toNat)
  case atStart => exact ⟨0, _, _, none, 0, Nat.zero_le _, rfl, rfl, HR7, by unfold Hid; rw [HA0.out]; exact ⟨HP7.out, Or.inl ⟨rfl, _, _, rfl⟩, fun k e => (by cases e), fun k e => (by cases e)⟩, HS0, HZ7, HB7.out⟩
  case round =>
    obtain ⟨j, adu, cpu, sd, sc, hj, rfl, rfl, HR, HAh, HSj, HZr, hb⟩ := hrel
    have HB := hide hb
    clear hb
    by_cases hlt : j < N
    · obtain ⟨s, hs⟩ := HC.out j hlt
      obtain ⟨e0, e1, e2, e3, hi⟩ := hs.below HB.out
      have HI := hide hi
      obtain ⟨ads, cps, rfl⟩ := slice_shape hi
      have hAp := HAh.out.p
      obtain ⟨⟨a0, _⟩, ⟨a1, _⟩, a2, _⟩ := hAp
      have HE := HSt.out j HSj.out
      have HPj := hide (HPs.out j)
      have HAj := hide (HAn.out j)
      have HSpj := hide (fun h => HSp.out (j + 1) h (by omega))
      generalize hE : SS (j + 1) = E at *
      have HEE := hide hE
      have HPo : Hid (E.1 = 0 → 0 < E.2.n) := fun h => by rw [← HE] at h ⊢; exact stpC_pos h
      have KT := hide (fun W (hW : Below wr.heap.size wr W) => ftell_any (E := E) (AA j).a (AA j).b (C j).al (C j).x (C j).y st (HAh.out.i.below hW) (HI.out.below hW) HE)
      have HAi := hide HAh.out
      clear hs hi hE HE HAh HI
      generalize (C j).al = al at *
      generalize (C j).x = X at *
      generalize (C j).y = Y at *
      generalize (C j).n = cn at *
      generalize (AA j) = Q at *
      go_upto_region 13 with fail
      refine regionG bb o N cap j xa st #[.int .i64 Q.a, .int .i64 Q.b, .slice sd Q.n sc] #[.bool al, .int .i64 X, .int .i64 Y, .slice ads cn cps] (errN E.1) (fun ad cp => #[.int .i64 E.2.a, .int .i64 E.2.b, .slice ad E.2.n cp]) (fun W W' ad cp => IntsIn W' (.slice ad E.2.n cp) E.2.n E.2.f ∧ ∀ k, (Value.slice ad E.2.n cp).ownBlock = some k → W.heap.size ≤ k) rfl rfl rfl rfl rfl hlt h6N rfl rfl (agg_pic a0 a1 a2) (agg_cod e0 e1 e2 e3) (fun _ _ => rfl) (fun ad cp => all_oneCell_toArray (cs := [.int .i64 E.2.a, .int .i64 E.2.b, .slice ad E.2.n cp]) (fun x hx => by simp at hx; rcases hx with rfl | rfl | rfl <;> rfl))
        (fun W W1 W2 ad cp h hb => ⟨h.1.below hb, h.2⟩) (fun W W1 ad cp x cells W2 h hb hle => ?_) (fun W W1 ad cp x cells h hlt => ⟨ints_sets (w := W1) (fun k e => by have := h.2 k e; omega) _ _ _ h.1, h.2⟩) (fun W hW => (KT.out W hW).mono fun e w' ⟨ad, cp, he, hi, hb, hn⟩ => ⟨ad, cp, he, ⟨hi, hn⟩, hb⟩) (fun _ _ _ _ _ h => h) ?_
      · refine ⟨?_, h.2⟩
        rcases h.1 with h0 | ⟨h0, g, og, c', e, hc⟩
        · exact Or.inl h0
        · have h9 := h.1.below hb
          refine ints_sets (w := W2) (fun k e2 => ?_) _ _ _ h9
          have := ints_lt h.1 h0 k e2
          omega
      intro W W0 ad cp xt hbW hbW0 hxt hrg hth hRR
      obtain ⟨hI, hnI⟩ := hRR
      simp only [Act.put]
      have hzr := HZr.out
      have hW0 := hbW0.size
      have HBW := hide hbW
      have HIW := hide hI
      have HRG := hide hrg
      have HNI : Hid (∀ k, (Value.slice ad E.2.n cp).ownBlock = some k → wr.heap.size ≤ k) := fun k e => by have := hnI k e; omega
      have HOB : Hid (∀ k, (Value.slice adu j cpu).ownBlock = some k → BB ≤ k ∧ k < wr.heap.size) := fun k e => by obtain ⟨S, hS⟩ := HR.out; exact hS.own.lt k e
      have HAW := hide (HAi.out.p.below hbW)
      have hxn : xt ≠ xa := by omega
      have hWr := hbW.size
      have HRW := hide (HR.out.below hbW)
      have HB9 := hide (below_two HB.out hbW)
      clear hrg hth hI hnI hbW hbW0 hW0 KT e0 e1 e2 e3 a0 a1 a2
      by_cases hE0 : E.1 = 0
      · rw [hE0, errN_zero]
        go_upto_region 16 with fail
        obtain ⟨S, hS⟩ := HRW.out
        have HSd := hide (hS.below (Below.refl W.heap.size W).drew)
        refine regionH BB xa xt j (.slice adu j cpu) (rowVS (picH PP) S j) E.2.a E.2.b ad E.2.n cp rfl rfl rfl rfl hS.own (by omega) (by omega) HRG.out (there_pic HAW.out) (fun e => by have := HOB.out xt e; omega) (fun e => by have := HOB.out xa e; omega) hxn (fun _ _ _ _ _ h => h) ?_
        clear hS
        intro w1 w5 g3 cap3 n0 hn0 hw1 hown3 hgrow3 hat3 hlt3
        subst hw1
        have hD : Below W.heap.size W W.drew := (Below.refl _ W).drew
        have hzd : W.drew.heap.size = W.heap.size := rfl
        have hB5 : Below BB W.drew w5 := ((Below.refl BB W.drew).alloc (by rw [hzd]; omega) _).grown hgrow3 (by simp; omega) (fun q hq => (HSd.out.own.lt q hq).1)
        have hPE : PP j = E.2 := HPj.out
        have HPR : Hid (PicR w5 BB (.slice (some ⟨g3, 0, none⟩) (j + 1) cap3) (j + 1) PP) := by
          refine PicR.snoc (s := .slice ad E.2.n cp) HSd.out ?_ hgrow3 hat3 ?_ (fun k e => ?_) (fun k e e2 => ?_)
          · rw [hPE]; exact hown3
          · rw [hPE]; exact HIW.out.below hD
          · have := HNI.out k e; omega
          · have h1 := HNI.out k e; have h2 := HOB.out k e2; omega
        have HI5 : Hid (IntsIn w5 (.slice ad E.2.n cp) E.2.n E.2.f) := by
          refine ints_other HIW.out (fun h0 k e => ?_)
          have hk := ints_lt HIW.out h0 k e
          have h1 := HNI.out k e
          rw [hgrow3.block k (by simp; omega) (fun e2 => by have h2 := HOB.out k e2.symm; omega)]
          exact ((Below.refl W.drew.heap.size W.drew).alloc (Nat.le_refl _) _).block k hk
        have hne : ∀ k, (Value.slice ad E.2.n cp).ownBlock = some k → k ≠ xa := fun k e => by have := HNI.out k e; omega
        have hAA : AA (j + 1) = E.2 := HAj.out
        have HLs : Hid (AhdT (((w5.setCell ⟨xa, 0, none⟩ (.int .i64 E.2.a)).setCell ⟨xa, 1, none⟩ (.int .i64 E.2.b)).setCell ⟨xa, 2, none⟩ (.slice ad E.2.n cp)) xa (AA (j + 1)) BB (.slice (some ⟨g3, 0, none⟩) (j + 1) cap3) ad cp) := by
          unfold Hid
          rw [hAA]
          refine ⟨((HAW.out.below hD).mono hB5 hxa2).put _ _ _, ints_set (o := 2) (ints_set (o := 1) (ints_set (o := 0) HI5.out hne _) hne _) hne _, fun k e => ?_, fun k e e2 => ?_⟩
          · have := HNI.out k e; omega
          · obtain ⟨S5, hS5⟩ := HPR.out
            have e3 : g3 = k := by simpa [Value.ownBlock] using e2
            subst e3
            have h1 := HNI.out g3 e
            rcases hat3 with hat | hat
            · have h2 := HOB.out g3 hat; omega
            · have hk := ints_lt HIW.out (HPo.out hE0) g3 e
              have hat' : g3 = W.heap.size + 1 := by rw [hat]; simp
              omega
        have HP9 : Hid (PicR (((w5.setCell ⟨xa, 0, none⟩ (.int .i64 E.2.a)).setCell ⟨xa, 1, none⟩ (.int .i64 E.2.b)).setCell ⟨xa, 2, none⟩ (.slice ad E.2.n cp)) BB (.slice (some ⟨g3, 0, none⟩) (j + 1) cap3) (j + 1) PP) := ((HPR.out.set hxa2 0 _).set hxa2 1 _).set hxa2 2 _
        have hBw : Below w.heap.size w (((w5.setCell ⟨xa, 0, none⟩ (.int .i64 E.2.a)).setCell ⟨xa, 1, none⟩ (.int .i64 E.2.b)).setCell ⟨xa, 2, none⟩ (.slice ad E.2.n cp)) :=
          (((((HB9.out.trans (hD.mono HB9.out.size)).trans (hB5.mono (by omega))).setCell (p := ⟨xa, 0, none⟩) hxw _).setCell (p := ⟨xa, 1, none⟩) hxw _).setCell (p := ⟨xa, 2, none⟩) hxw _)
        have HBw := hide hBw
        have HZ5 : Hid (BB ≤ (((w5.setCell ⟨xa, 0, none⟩ (.int .i64 E.2.a)).setCell ⟨xa, 1, none⟩ (.int .i64 E.2.b)).setCell ⟨xa, 2, none⟩ (.slice ad E.2.n cp)).heap.size) := by
          have h1 := hB5.size
          unfold Hid
          simp
          omega
        have hS9 : Hid ((SS (j + 1)).1 = 0) := by unfold Hid; rw [HEE.out]; exact hE0
        have hW9 : w5.setCells xa 0 (#[.int .i64 E.2.a, .int .i64 E.2.b, .slice ad E.2.n cp] : Array Value).toList = (((w5.setCell ⟨xa, 0, none⟩ (.int .i64 E.2.a)).setCell ⟨xa, 1, none⟩ (.int .i64 E.2.b)).setCell ⟨xa, 2, none⟩ (.slice ad E.2.n cp)) := rfl
        rw [hW9]
        clear hW9 hB5 hD hown3 hgrow3 hat3 hlt3 hBw hAA hPE hne hn0 hzd
        generalize (((w5.setCell ⟨xa, 0, none⟩ (.int .i64 E.2.a)).setCell ⟨xa, 1, none⟩ (.int .i64 E.2.b)).setCell ⟨xa, 2, none⟩ (.slice ad E.2.n cp)) = W9 at *
        simp only [Act.put]
        go_wp2
        go_roundw
        case rel =>
          have R : j + 1 ≤ N ∧ Value.int .i64 ((j : Int) + 1) = .int .i64 ((j + 1 : Nat) : Int) ∧ Value.slice (some ⟨g3, 0, none⟩) (j + 1) cap3 = .slice (some ⟨g3, 0, none⟩) (j + 1) cap3 ∧ Hid (PicR W9 BB (.slice (some ⟨g3, 0, none⟩) (j + 1) cap3) (j + 1) PP) ∧ Hid (AhdT W9 xa (AA (j + 1)) BB (.slice (some ⟨g3, 0, none⟩) (j + 1) cap3) ad cp) ∧ Hid ((SS (j + 1)).1 = 0) ∧ Hid (BB ≤ W9.heap.size) ∧ Below w.heap.size w W9 :=
            ⟨by omega, by simp, rfl, HP9, HLs, hS9, HZ5, HBw.out⟩
          first
            | exact ⟨j + 1, some ⟨g3, 0, none⟩, cap3, ad, cp, R⟩
            | ((repeat apply Exists.intro); exact ⟨⟨j + 1, some ⟨g3, 0, none⟩, cap3, ad, cp, R⟩, rfl⟩)
        case measure => simp [intOf]; omega
      · have HN := hide (errN_pos hE0)
        rw [HN.out]
        have HSN : Hid (SS N = E) := by unfold Hid; exact HSpj.out hE0
        go_wp2
        go_ret2
        exact ⟨Or.inl ⟨by rw [HSN.out]; exact hE0, by rw [HSN.out, HN.out]; rfl⟩, HB9.out⟩
    · obtain rfl : j = N := by omega
      go_wp2
      go_ret2
      exact ⟨Or.inr ⟨HSj.out, _, rfl, HR.out.pics⟩, HB.out⟩
end Go.Proofs.YtjhflcgphejddaaGreatDoor
