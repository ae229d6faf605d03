/-
  Drops as a slice that a call owns holds them. Lemmas for the laws above; no function is walked, and no statement is proved here.
-/
import Derived.Test.YtjoklnalkehegaaOwn
import Derived.Test.YtjoklnalkehegaaLstN
import Derived.Test.YtjoklnalkehegaaDropI
import Derived.Laws.AppendOwnNone
import Derived.Deep.AppendLies
namespace Go.Proofs.Ytjoklnalkehegaa
open Go.RowKit Go.Maps
set_option linter.unusedVariables false
set_option maxRecDepth 100000

/-- A drop: its seed, its data. -/
abbrev Drp := Nat × ByteArray
/-- Drops as a slice holds them. -/
def dC (L : List Drp) : List Value := L.flatMap fun d => [.int .i64 (d.1 : Nat), .string d.2]
theorem dC_snoc (L : List Drp) (d : Drp) : dC (L ++ [d]) = dC L ++ [.int .i64 (d.1 : Nat), .string d.2] := by simp [dC]
theorem Try.infoDrop : (Try.prog.info? 30).map (fun i => (i.zero, i.size, i.bytes)) = some (some (.agg #[.int .i64 0, .string ⟨#[]⟩]), 2, 24) := by kernel_rfl

theorem off_ne {b i j : Nat} (h : i ≠ j) : (⟨b, i, none⟩ : Addr) ≠ ⟨b, j, none⟩ := fun e => h (by injection e)
theorem cell_set_off {w : World} {b i j : Nat} {u : Value} (h : i ≠ j) : (w.setCell ⟨b, i, none⟩ u).cell? ⟨b, j, none⟩ = w.cell? ⟨b, j, none⟩ := World.cell?_setCell_other _ _ _ _ (off_ne h)
theorem frozen_set {w : World} {a c : Addr} {u : Value} : (w.setCell a u).frozen? c = w.frozen? c := World.frozen?_setCell _ _ _ _
theorem own_set {w : World} {B e size n : Nat} {v u : Value} {xs : List Value} {a : Addr} (h : w.ownsRow B e size v n xs) (hne : v.ownBlock ≠ some a.block) : (w.setCell a u).ownsRow B e size v n xs := by
  refine ⟨h.1, ?_⟩
  rcases h.2 with hn | ⟨g, cap, cur, hv, h1, hgg, rest⟩
  · exact .inl hn
  · refine .inr ⟨g, cap, cur, hv, h1, ?_, rest⟩
    rw [Below.heap_setCell w a u g (fun e => hne (by rw [hv, ← e]; rfl))]
    exact hgg

/-- The drop at j. -/
def dAt (L : List Drp) (j : Nat) : Drp := L.getD j (0, ⟨#[]⟩)
theorem dAt_mem {L : List Drp} {j : Nat} (h : j < L.length) : dAt L j ∈ L := by
  unfold dAt; rw [show L.getD j (0, ⟨#[]⟩) = L[j] by simp [List.getD, h]]; exact List.getElem_mem h
theorem take_dAt {L : List Drp} {j : Nat} (h : j < L.length) : L.take (j + 1) = L.take j ++ [dAt L j] := by rw [List.take_add_one]; simp [dAt, List.getD, h]
theorem dC_at : ∀ (L : List Drp) (j : Nat), j < L.length → (dC L)[j * 2]? = some (.int .i64 ((dAt L j).1 : Nat)) ∧ (dC L)[j * 2 + 1]? = some (.string (dAt L j).2)
  | [], j, h => absurd h (Nat.not_lt_zero _)
  | d :: L, 0, _ => by simp [dC, dAt]
  | d :: L, j + 1, h => by
    have ih := dC_at L j (by simpa using h)
    have e : dC (d :: L) = [.int .i64 (d.1 : Nat), .string d.2] ++ dC L := by simp [dC]
    have e2 : dAt (d :: L) (j + 1) = dAt L j := by simp [dAt]
    rw [e, e2, show (j + 1) * 2 = 2 + j * 2 by omega, show 2 + j * 2 + 1 = 2 + (j * 2 + 1) by omega]
    rw [List.getElem?_append_right (by simp), List.getElem?_append_right (by simp)]
    simp only [List.length_cons, List.length_nil]
    rw [show 2 + j * 2 - (0 + 1 + 1) = j * 2 by omega, show 2 + (j * 2 + 1) - (0 + 1 + 1) = j * 2 + 1 by omega]
    exact ih
/-- Drops that are owned, opened. -/
theorem own_drops {w : World} {B : Nat} {v : Value} {L : List Drp} (h : w.ownsRow B 30 2 v L.length (dC L)) :
    ∃ a cap, v = .slice a L.length cap ∧ L.length ≤ cap ∧ cap ≤ maxLen ∧ (0 < L.length → ∃ g, a = some ⟨g, 0, none⟩) ∧ ∀ g, a = some ⟨g, 0, none⟩ → ∀ j, j < L.length → w.cell? ⟨g, j * 2, none⟩ = some (.int .i64 ((dAt L j).1 : Nat)) ∧ w.cell? ⟨g, j * 2 + 1, none⟩ = some (.string (dAt L j).2) := by
  have h' := h
  rcases h.2 with ⟨hv, h0⟩ | ⟨g, cap, cur, hv, _, hg, h1, h2, hcs, hcur⟩
  · exact ⟨none, 0, by rw [h0]; exact hv, by omega, by unfold maxLen; omega, fun h => by omega, fun g e => by cases e⟩
  · refine ⟨_, cap, hv, h1, h2, fun _ => ⟨g, rfl⟩, fun g' e j hj => ?_⟩
    cases e
    rw [hv] at h'
    rw [h'.cellAt (j * 2) (by omega), h'.cellAt (j * 2 + 1) (by omega)]
    exact dC_at L j hj
theorem own_mono {w : World} {B B' e size n : Nat} {v : Value} {xs : List Value} (h : w.ownsRow B e size v n xs) (hb : B' ≤ B) : w.ownsRow B' e size v n xs :=
  ⟨h.1, h.2.imp id fun ⟨g, cap, cur, h1, h2, h3⟩ => ⟨g, cap, cur, h1, Nat.le_trans hb h2, h3⟩⟩
theorem below_grown {w w' : World} (h : Below w.heap.size w w') : w.grownBy w' none := ⟨h.os, h.tape, h.output, h.size, fun i hi _ => h.block i hi⟩
theorem below_two' {w0 w w' : World} (h : Below w0.heap.size w0 w) (k : Below w.heap.size w w') : Below w0.heap.size w0 w' := below_two h k
theorem kept_below {M : Nat → Prop} {w0 w w' : World} (h : Below w0.heap.size w0 w) (k : Kept M w w') (hm : ∀ i, M i → w0.heap.size ≤ i) : Below w0.heap.size w0 w' :=
  ⟨k.os.trans h.os, k.tape.trans h.tape, k.output.trans h.output, Nat.le_trans h.size k.size, fun i hi => (k.block i (Nat.lt_of_lt_of_le hi h.size) (fun e => by have := hm i e; omega)).trans (h.block i hi)⟩
theorem own_blk {w w' : World} {B e size n : Nat} {v : Value} {xs : List Value} (h : w.ownsRow B e size v n xs) (hb : ∀ i, v.ownBlock = some i → w'.heap[i]? = w.heap[i]?) : w'.ownsRow B e size v n xs := by
  refine ⟨h.1, ?_⟩
  rcases h.2 with hn | ⟨g, cap, cur, hv, h1, hgg, rest⟩
  · exact .inl hn
  · exact .inr ⟨g, cap, cur, hv, h1, (hb g (by rw [hv]; rfl)).trans hgg, rest⟩

theorem Kept.mono {M M' : Nat → Prop} {w w' : World} (h : Kept M w w') (hm : ∀ i, M i → M' i) : Kept M' w w' := ⟨h.os, h.tape, h.output, h.size, fun i hi hn => h.block i hi fun e => hn (hm i e)⟩
theorem Kept.trans {M M' : Nat → Prop} {w w1 w2 : World} (h : Kept M w w1) (k : Kept M' w1 w2) (hm : ∀ i, i < w.heap.size → M' i → M i) : Kept M w w2 :=
  ⟨k.os.trans h.os, k.tape.trans h.tape, k.output.trans h.output, Nat.le_trans h.size k.size, fun i hi hn => (k.block i (Nat.lt_of_lt_of_le hi h.size) (fun e => hn (hm i hi e))).trans (h.block i hi hn)⟩
theorem dC_len (L : List Drp) : (dC L).length = L.length * 2 := by
  induction L with
  | nil => rfl
  | cons d L ih =>
    have e : dC (d :: L) = [.int .i64 (d.1 : Nat), .string d.2] ++ dC L := by simp [dC]
    rw [e, List.length_append, ih]; simp; omega
theorem dC_append (L M : List Drp) : dC (L ++ M) = dC L ++ dC M := by simp [dC]
theorem dC_take : ∀ (L : List Drp) (i : Nat), (dC L).take (i * 2) = dC (L.take i)
  | [], i => by simp [dC]
  | y :: L, 0 => by simp [dC]
  | y :: L, i + 1 => by
    have e : ∀ y Y, dC (y :: Y) = .int .i64 (y.1 : Nat) :: .string y.2 :: dC Y := fun y Y => by simp [dC]
    rw [List.take_succ_cons, e, e, show (i + 1) * 2 = i * 2 + 1 + 1 by omega]
    simp only [List.take_succ_cons]
    rw [dC_take L i]
theorem dC_drop : ∀ (L : List Drp) (i : Nat), (dC L).drop (i * 2) = dC (L.drop i)
  | [], i => by simp [dC]
  | y :: L, 0 => by simp
  | y :: L, i + 1 => by
    have e : ∀ y Y, dC (y :: Y) = .int .i64 (y.1 : Nat) :: .string y.2 :: dC Y := fun y Y => by simp [dC]
    rw [List.drop_succ_cons, e, show (i + 1) * 2 = i * 2 + 1 + 1 by omega]
    simp only [List.drop_succ_cons]
    rw [dC_drop L i]
theorem dC_one (L : List Drp) : ∀ u ∈ dC L, u.oneCell' = true := fun u hu => by
  obtain ⟨d, _, hd⟩ := List.mem_flatMap.1 hu
  rcases List.mem_cons.1 hd with rfl | hd
  · rfl
  · rw [List.mem_singleton.1 hd]; rfl
end Go.Proofs.Ytjoklnalkehegaa
