/-
  dropref1's Peeler as it lies; lemmas for its Take over this seat's translation. Lemmas for the laws above; no statement is proved here.
-/
import Derived.Test.YtopibfbpecjgbaaDoorRPeel
import Derived.Deep.AppendLies
import Derived.Deep.RegionLaw
import Derived.Deep.DrawnRows
namespace Go.Proofs.YtopibfbpecjgbaaDoor
open Go.RowKit Go.Maps
set_option linter.unusedVariables false
set_option maxRecDepth 100000

/-- Drops as a slice holds them. -/
def dC (L : List Drp) : List Value := L.flatMap fun d => [.int .i64 (d.1 : Nat), .string d.2]
theorem dC_snoc (L : List Drp) (d : Drp) : dC (L ++ [d]) = dC L ++ [.int .i64 (d.1 : Nat), .string d.2] := by simp [dC]
theorem Tryd.infoDrop : (Tryd.prog.info? 32).map (fun i => (i.zero, i.size, i.bytes)) = some (some (.agg #[.int .i64 0, .string ⟨#[]⟩]), 2, 24) := by kernel_rfl

/-- What is below w's size is as it was, but for the blocks of M. -/
structure Kept (M : Nat → Prop) (w w' : World) : Prop where
  os : w'.os = w.os
  tape : w'.tape = w.tape
  output : w'.output = w.output
  size : w.heap.size ≤ w'.heap.size
  block : ∀ i, i < w.heap.size → ¬ M i → w'.heap[i]? = w.heap[i]?
theorem Kept.refl (M : Nat → Prop) (w : World) : Kept M w w := ⟨rfl, rfl, rfl, Nat.le_refl _, fun _ _ _ => rfl⟩
theorem Kept.below {M : Nat → Prop} {w0 w w' : World} (h : Kept M w0 w) (hb : Below w.heap.size w w') : Kept M w0 w' :=
  ⟨hb.os.trans h.os, hb.tape.trans h.tape, hb.output.trans h.output, Nat.le_trans h.size hb.size, fun i hi hm => (hb.block i (Nat.lt_of_lt_of_le hi h.size)).trans (h.block i hi hm)⟩
theorem Kept.grown {M : Nat → Prop} {w0 w w' : World} (h : Kept M w0 w) {row : Option Nat} (hg : w.grownBy w' row) (hr : ∀ i, row = some i → M i ∨ w0.heap.size ≤ i) : Kept M w0 w' := by
  have hb : Below 0 w w' := (Below.refl 0 w).grown hg (Nat.zero_le _) (fun _ _ => Nat.zero_le _)
  refine ⟨hb.os.trans h.os, hb.tape.trans h.tape, hb.output.trans h.output, Nat.le_trans h.size hb.size, fun i hi hm => ?_⟩
  refine (hg.block i (Nat.lt_of_lt_of_le hi h.size) (fun e => ?_)).trans (h.block i hi hm)
  rcases hr i e.symm with h1 | h1
  · exact hm h1
  · omega
theorem Kept.setCell {M : Nat → Prop} {w0 w : World} (h : Kept M w0 w) (a : Addr) (u : Value) (hr : M a.block ∨ w0.heap.size ≤ a.block) : Kept M w0 (w.setCell a u) := by
  have hb : Below 0 w (w.setCell a u) := (Below.refl 0 w).setCell (Nat.zero_le _) _
  refine ⟨hb.os.trans h.os, hb.tape.trans h.tape, hb.output.trans h.output, Nat.le_trans h.size hb.size, fun i hi hm => ?_⟩
  refine (Below.heap_setCell w a u i (fun e => ?_)).trans (h.block i hi hm)
  rcases hr with h1 | h1
  · exact hm (e ▸ h1)
  · omega

theorem own_under' {w w' : World} {B e size n : Nat} {v : Value} {xs : List Value} (h : w.ownsRow B e size v n xs) (hb : Below w.heap.size w w') : w'.ownsRow B e size v n xs := by
  refine ⟨h.1, ?_⟩
  rcases h.2 with hn | ⟨g, cap, cur, hv, h1, hgg, rest⟩
  · exact .inl hn
  · exact .inr ⟨g, cap, cur, hv, h1, (hb.block g (Array.getElem?_eq_some_iff.1 hgg).1).trans hgg, rest⟩
theorem off_ne {b i j : Nat} (h : i ≠ j) : (⟨b, i, none⟩ : Addr) ≠ ⟨b, j, none⟩ := fun e => h (by injection e)
theorem cell_set_off {w : World} {b i j : Nat} {u : Value} (h : i ≠ j) : (w.setCell ⟨b, i, none⟩ u).cell? ⟨b, j, none⟩ = w.cell? ⟨b, j, none⟩ := World.cell?_setCell_other _ _ _ _ (off_ne h)
theorem frozen_set {w : World} {a c : Addr} {u : Value} : (w.setCell a u).frozen? c = w.frozen? c := World.frozen?_setCell _ _ _ _
theorem RPb.setL {w : World} {b k : Nat} {kn : Nat → Bool} {B : Nat → ByteArray} {vL vT : Value} (h : RPb w b k kn B vL vT) (v : Value) : RPb (w.setCell ⟨b, 33, none⟩ v) b k kn B v vT := by
  refine ⟨by rw [cell_set_off (by decide)]; exact h.kk, fun r hr => ?_, fun r hr => ?_, ?_, ?_⟩
  · rw [cell_set_off (by omega), frozen_set]; exact h.known r hr
  · rw [cell_set_off (by omega), frozen_set]; exact h.blocks r hr
  · rw [frozen_set]; exact ⟨World.cell?_setCell_same _ _ _ h.waits.1, h.waits.2⟩
  · rw [cell_set_off (by decide), frozen_set]; exact h.taken
theorem RPb.setT {w : World} {b k : Nat} {kn : Nat → Bool} {B : Nat → ByteArray} {vL vT : Value} (h : RPb w b k kn B vL vT) (v : Value) : RPb (w.setCell ⟨b, 34, none⟩ v) b k kn B vL v := by
  refine ⟨by rw [cell_set_off (by decide)]; exact h.kk, fun r hr => ?_, fun r hr => ?_, ?_, ?_⟩
  · rw [cell_set_off (by omega), frozen_set]; exact h.known r hr
  · rw [cell_set_off (by omega), frozen_set]; exact h.blocks r hr
  · rw [cell_set_off (by decide), frozen_set]; exact h.waits
  · rw [frozen_set]; exact ⟨World.cell?_setCell_same _ _ _ h.taken.1, h.taken.2⟩
theorem RPb.setKnown {w : World} {b k : Nat} {kn : Nat → Bool} {B : Nat → ByteArray} {vL vT : Value} (h : RPb w b k kn B vL vT) {x : Nat} (hx : x < 16) : RPb (w.setCell ⟨b, 1 + x, none⟩ (.bool true)) b k (upd kn x true) B vL vT := by
  refine ⟨by rw [cell_set_off (by omega)]; exact h.kk, fun r hr => ?_, fun r hr => ?_, ?_, ?_⟩
  · rw [frozen_set]
    refine ⟨?_, (h.known r hr).2⟩
    by_cases c : r = x
    · subst c
      rw [World.cell?_setCell_same _ _ _ (h.known r hr).1]; simp [upd]
    · rw [cell_set_off (by omega), (h.known r hr).1]; simp [upd, c]
  · rw [cell_set_off (by omega), frozen_set]; exact h.blocks r hr
  · rw [cell_set_off (by omega), frozen_set]; exact h.waits
  · rw [cell_set_off (by omega), frozen_set]; exact h.taken
theorem RPb.setBlock {w : World} {b k : Nat} {kn : Nat → Bool} {B : Nat → ByteArray} {vL vT : Value} (h : RPb w b k kn B vL vT) {x : Nat} (hx : x < 16) (s : ByteArray) : RPb (w.setCell ⟨b, 17 + x, none⟩ (.string s)) b k kn (upd B x s) vL vT := by
  refine ⟨by rw [cell_set_off (by omega)]; exact h.kk, fun r hr => ?_, fun r hr => ?_, ?_, ?_⟩
  · rw [cell_set_off (by omega), frozen_set]; exact h.known r hr
  · rw [frozen_set]
    refine ⟨?_, (h.blocks r hr).2⟩
    by_cases c : r = x
    · subst c
      rw [World.cell?_setCell_same _ _ _ (h.blocks r hr).1]; simp [upd]
    · rw [cell_set_off (by omega), (h.blocks r hr).1]; simp [upd, c]
  · rw [cell_set_off (by omega), frozen_set]; exact h.waits
  · rw [cell_set_off (by omega), frozen_set]; exact h.taken
theorem own_set {w : World} {B e size n : Nat} {v u : Value} {xs : List Value} {a : Addr} (h : w.ownsRow B e size v n xs) (hne : v.ownBlock ≠ some a.block) : (w.setCell a u).ownsRow B e size v n xs := by
  refine ⟨h.1, ?_⟩
  rcases h.2 with hn | ⟨g, cap, cur, hv, h1, hgg, rest⟩
  · exact .inl hn
  · refine .inr ⟨g, cap, cur, hv, h1, ?_, rest⟩
    rw [Below.heap_setCell w a u g (fun e => hne (by rw [hv, ← e]; rfl))]
    exact hgg

theorem DropIn.of_block {w w' : World} {b : Nat} {seed : Int} {s : ByteArray} (h : DropIn w b seed s) (hb : w'.heap[b]? = w.heap[b]?) : DropIn w' b seed s := by
  have hc : ∀ i, w'.cell? ⟨b, i, none⟩ = w.cell? ⟨b, i, none⟩ := fun i => World.cell?_of_block (w := w) hb
  have hf : ∀ i, w'.frozen? ⟨b, i, none⟩ = w.frozen? ⟨b, i, none⟩ := fun i => World.frozen?_of_block (w := w) hb
  unfold DropIn
  rw [hc, hf, hc, hf]
  exact h

/-- dropref1's Peeler, its state, its two rows; and what of w0 has turned. -/
structure RSt (M : Nat → Prop) (w0 w : World) (base b k : Nat) (p : PS) (T : List Nat) (vL vT : Value) : Prop where
  blk : RPb w b k p.known p.B vL vT
  ownL : w.ownsRow base 32 2 vL p.L.length (dC p.L)
  ownT : w.ownsRow base 3 1 vT T.length (toV T)
  apL : vL.ownBlock ≠ some b
  apT : vT.ownBlock ≠ some b
  apLT : Apart vL vT
  inL : ∀ i, vL.ownBlock = some i → M i ∨ w0.heap.size ≤ i
  inT : ∀ i, vT.ownBlock = some i → M i ∨ w0.heap.size ≤ i
  inB : M b
  kept : Kept M w0 w
theorem RSt.below {M : Nat → Prop} {w0 w w' : World} {base b k : Nat} {p : PS} {T : List Nat} {vL vT : Value} (h : RSt M w0 w base b k p T vL vT) (hb : Below w.heap.size w w') : RSt M w0 w' base b k p T vL vT :=
  ⟨h.blk.below hb, own_under' h.ownL hb, own_under' h.ownT hb, h.apL, h.apT, h.apLT, h.inL, h.inT, h.inB, h.kept.below hb⟩
/-- A new row of waiting ones is stored. -/
theorem RSt.storeL {M : Nat → Prop} {w0 w w1 : World} {base b k : Nat} {p : PS} {T : List Nat} {vL vT : Value} (h : RSt M w0 w base b k p T vL vT) {row : Option Nat} (hg : w.grownBy w1 row) (hrow : row = none ∨ row = vL.ownBlock) {v : Value} {L : List Drp} (hv : w1.ownsRow base 32 2 v L.length (dC L))
    (hat : v.ownBlock = none ∨ v.ownBlock = vL.ownBlock ∨ ∃ i, v.ownBlock = some i ∧ w.heap.size ≤ i) : RSt M w0 (w1.setCell ⟨b, 33, none⟩ v) base b k ⟨p.known, p.B, L⟩ T v vT := by
  have hrb : row ≠ some b := by
    rcases hrow with e | e
    · rw [e]; simp
    · rw [e]; exact h.apL
  have hrT : vT.ownBlock = none ∨ vT.ownBlock ≠ row := by
    rcases hrow with e | e
    · rw [e]; cases vT.ownBlock with
      | none => exact Or.inl rfl
      | some _ => exact Or.inr (by simp)
    · rw [e]; exact h.apLT.kept
  have hbl : w1.heap[b]? = w.heap[b]? := hg.block b h.blk.lt (fun e => hrb e.symm)
  have hsz : w.heap.size ≤ w1.heap.size := hg.size
  have hnb : v.ownBlock ≠ some b := by
    rcases hat with e | e | ⟨i, e, hi⟩
    · rw [e]; simp
    · rw [e]; exact h.apL
    · rw [e]; intro e2; cases e2; have := h.blk.lt; omega
  have hT1 := h.ownT.kept hg hrT
  refine ⟨(h.blk.of_block hbl).setL v, own_set hv hnb, own_set hT1 h.apT, hnb, h.apT, ?_, ?_, h.inT, h.inB, ?_⟩
  · rcases hat with e | e | ⟨i, e, hi⟩
    · exact Or.inl e
    · unfold Apart; rw [e]; exact h.apLT
    · refine Or.inr (Or.inr fun e2 => ?_)
      rw [e] at e2
      have := (h.ownT.lt i e2.symm).2
      omega
  · intro j hj
    rcases hat with e | e | ⟨i, e, hi⟩
    · rw [e] at hj; cases hj
    · rw [e] at hj; exact h.inL j hj
    · rw [e] at hj; cases hj; exact Or.inr (Nat.le_trans h.kept.size hi)
  · refine (h.kept.grown hg fun i e => ?_).setCell _ _ (Or.inl h.inB)
    rcases hrow with e2 | e2
    · rw [e2] at e; cases e
    · rw [e2] at e; exact h.inL i e
theorem RSt.storeT {M : Nat → Prop} {w0 w w1 : World} {base b k : Nat} {p : PS} {T : List Nat} {vL vT : Value} (h : RSt M w0 w base b k p T vL vT) (hg : w.grownBy w1 vT.ownBlock) {v : Value} {T' : List Nat} (hv : w1.ownsRow base 3 1 v T'.length (toV T'))
    (hat : v.ownBlock = vT.ownBlock ∨ ∃ i, v.ownBlock = some i ∧ w.heap.size ≤ i) : RSt M w0 (w1.setCell ⟨b, 34, none⟩ v) base b k p T' vL v := by
  have hrL : vL.ownBlock = none ∨ vL.ownBlock ≠ vT.ownBlock := h.apLT.symm.kept
  have hbl : w1.heap[b]? = w.heap[b]? := hg.block b h.blk.lt (fun e => h.apT e.symm)
  have hnb : v.ownBlock ≠ some b := by
    rcases hat with e | ⟨i, e, hi⟩
    · rw [e]; exact h.apT
    · rw [e]; intro e2; cases e2; have := h.blk.lt; omega
  have hL1 := h.ownL.kept hg hrL
  refine ⟨(h.blk.of_block hbl).setT v, own_set hL1 h.apL, own_set hv hnb, h.apL, hnb, ?_, h.inL, ?_, h.inB, ?_⟩
  · rcases hat with e | ⟨i, e, hi⟩
    · unfold Apart; rw [e]; exact h.apLT
    · refine Or.inr (Or.inr fun e2 => ?_)
      rw [e] at e2
      have := (h.ownL.lt i e2).2
      omega
  · intro j hj
    rcases hat with e | ⟨i, e, hi⟩
    · rw [e] at hj; exact h.inT j hj
    · rw [e] at hj; cases hj; exact Or.inr (Nat.le_trans h.kept.size hi)
  · exact (h.kept.grown hg fun i e => h.inT i e).setCell _ _ (Or.inl h.inB)
/-- A block has come to be known. -/
theorem RSt.tell {M : Nat → Prop} {w0 w : World} {base b k : Nat} {p : PS} {T : List Nat} {vL vT : Value} (h : RSt M w0 w base b k p T vL vT) {x : Nat} (hx : x < 16) (s : ByteArray) :
    RSt M w0 ((w.setCell ⟨b, 1 + x, none⟩ (.bool true)).setCell ⟨b, 17 + x, none⟩ (.string s)) base b k ⟨upd p.known x true, upd p.B x s, p.L⟩ T vL vT :=
  ⟨(h.blk.setKnown hx).setBlock hx s, own_set (own_set h.ownL h.apL) h.apL, own_set (own_set h.ownT h.apT) h.apT, h.apL, h.apT, h.apLT, h.inL, h.inT, h.inB, (h.kept.setCell _ _ (Or.inl h.inB)).setCell _ _ (Or.inl h.inB)⟩

/-- The drop at j. -/
def dAt (L : List Drp) (j : Nat) : Drp := L.getD j (0, ⟨#[]⟩)
theorem dAt_mem {L : List Drp} {j : Nat} (h : j < L.length) : dAt L j ∈ L := by
  unfold dAt; rw [show L.getD j (0, ⟨#[]⟩) = L[j] by simp [List.getD, h]]; exact List.getElem_mem h
theorem take_dAt {L : List Drp} {j : Nat} (h : j < L.length) : L.take (j + 1) = L.take j ++ [dAt L j] := by rw [List.take_add_one]; simp [dAt, List.getD, h]
theorem dC_at : ∀ (L : List Drp) (j : Nat), j < L.length → (dC L)[j * 2]? = some (.int .i64 ((dAt L j).1 : Nat)) ∧ (dC L)[j * 2 + 1]? = some (.string (dAt L j).2)
  | [], j, h => absurd h (Nat.not_lt_zero _)
  | d :: L, 0, _ => by simp [dC, dAt]
  | d :: L, j + 1, h => by
    have ih := dC_at L j (by simpa using h)
    have e : dC (d :: L) = [.int .i64 (d.1 : Nat), .string d.2] ++ dC L := by simp [dC]
    have e2 : dAt (d :: L) (j + 1) = dAt L j := by simp [dAt]
    rw [e, e2, show (j + 1) * 2 = 2 + j * 2 by omega, show 2 + j * 2 + 1 = 2 + (j * 2 + 1) by omega]
    rw [List.getElem?_append_right (by simp), List.getElem?_append_right (by simp)]
    simp only [List.length_cons, List.length_nil]
    rw [show 2 + j * 2 - (0 + 1 + 1) = j * 2 by omega, show 2 + (j * 2 + 1) - (0 + 1 + 1) = j * 2 + 1 by omega]
    exact ih
/-- Drops that are owned, opened. -/
theorem own_drops {w : World} {B : Nat} {v : Value} {L : List Drp} (h : w.ownsRow B 32 2 v L.length (dC L)) :
    ∃ a cap, v = .slice a L.length cap ∧ L.length ≤ cap ∧ cap ≤ maxLen ∧ (0 < L.length → ∃ g, a = some ⟨g, 0, none⟩) ∧ ∀ g, a = some ⟨g, 0, none⟩ → ∀ j, j < L.length → w.cell? ⟨g, j * 2, none⟩ = some (.int .i64 ((dAt L j).1 : Nat)) ∧ w.cell? ⟨g, j * 2 + 1, none⟩ = some (.string (dAt L j).2) := by
  have h' := h
  rcases h.2 with ⟨hv, h0⟩ | ⟨g, cap, cur, hv, _, hg, h1, h2, hcs, hcur⟩
  · exact ⟨none, 0, by rw [h0]; exact hv, by omega, by unfold maxLen; omega, fun h => by omega, fun g e => by cases e⟩
  · refine ⟨_, cap, hv, h1, h2, fun _ => ⟨g, rfl⟩, fun g' e j hj => ?_⟩
    cases e
    rw [hv] at h'
    rw [h'.cellAt (j * 2) (by omega), h'.cellAt (j * 2 + 1) (by omega)]
    exact dC_at L j hj
theorem sift_snoc {S : Nat → List Nat} {kn : Nat → Bool} {L : List Drp} {j : Nat} (h : j < L.length) : sift S kn (L.take (j + 1)) = sift S kn (L.take j) ++ if (lft S kn (dAt L j)).length = 0 then [] else [dAt L j] := by
  unfold sift
  rw [take_dAt h, List.filter_append]
  congr 1
  by_cases c : (lft S kn (dAt L j)).length = 0
  · rw [if_pos c, List.filter_cons_of_neg (by simp [c])]; rfl
  · rw [if_neg c, List.filter_cons_of_pos (by simpa using c)]; rfl
theorem sift_len {S : Nat → List Nat} {kn : Nat → Bool} (L : List Drp) : (sift S kn L).length ≤ L.length := List.length_filter_le _ _
/-- All is right: seeds, sizes. -/
def Good (z : Nat) (p : PS) : Prop := (∀ d ∈ p.L, 1 ≤ d.1 ∧ d.1 ≤ 10000 ∧ d.2.size = z) ∧ ∀ r, p.known r = true → (p.B r).size = z
theorem own_mono {w : World} {B B' e size n : Nat} {v : Value} {xs : List Value} (h : w.ownsRow B e size v n xs) (hb : B' ≤ B) : w.ownsRow B' e size v n xs :=
  ⟨h.1, h.2.imp id fun ⟨g, cap, cur, h1, h2, h3⟩ => ⟨g, cap, cur, h1, Nat.le_trans hb h2, h3⟩⟩
theorem below_grown {w w' : World} (h : Below w.heap.size w w') : w.grownBy w' none := ⟨h.os, h.tape, h.output, h.size, fun i hi _ => h.block i hi⟩
theorem Lst.set_far {w : World} {v : Value} {l : List Nat} (h : Lst w v l) {a : Addr} (hne : v.ownBlock ≠ some a.block) (u : Value) : Lst (w.setCell a u) v l := by
  obtain ⟨g, cap, hv, h1, h2, h3⟩ := h
  refine ⟨g, cap, hv, h1, h2, fun i hi => ?_⟩
  rw [World.cell?_setCell_other _ _ _ _ (fun e => hne (by rw [hv, e]; rfl))]
  exact h3 i hi
theorem Lsh.set_far {w : World} {v : Value} {l : List Nat} (h : Lsh w v l) {a : Addr} (hne : v.ownBlock ≠ some a.block) (u : Value) : Lsh (w.setCell a u) v l := by
  obtain ⟨b, cap, hv, h1, h2, h3⟩ := h
  exact ⟨b, cap, hv, h1, h2, fun h0 => (h3 h0).set_far hne u⟩
theorem find_first {L : List Drp} {P : Drp → Bool} : ∀ {j : Nat}, j < L.length → (∀ i, i < j → P (dAt L i) = false) → P (dAt L j) = true → L.find? P = some (dAt L j) := fun {j} hj h1 h2 => by
  induction L generalizing j with
  | nil => exact absurd hj (Nat.not_lt_zero _)
  | cons d L ih =>
    cases j with
    | zero =>
      have e : dAt (d :: L) 0 = d := by simp [dAt]
      rw [e] at h2 ⊢
      simp [List.find?, h2]
    | succ j =>
      have e : ∀ i, dAt (d :: L) (i + 1) = dAt L i := fun i => by simp [dAt]
      have h0 := h1 0 (by omega)
      have e0 : dAt (d :: L) 0 = d := by simp [dAt]
      rw [e0] at h0
      rw [e] at h2 ⊢
      simp only [List.find?, h0]
      exact ih (by simpa using hj) (fun i hi => by have := h1 (i + 1) (by omega); rwa [e] at this) h2
theorem find_none {L : List Drp} {P : Drp → Bool} (h : ∀ i, i < L.length → P (dAt L i) = false) : L.find? P = none := List.find?_eq_none.2 fun d hd => by
  obtain ⟨i, hi, rfl⟩ := List.getElem_of_mem hd
  have := h i hi
  rw [show dAt L i = L[i] by simp [dAt, List.getD, hi]] at this
  simp [this]
/-- One more has come. -/
theorem came_ins {k x : Nat} {kn kn' : Nat → Bool} (hx : x < k) (h1 : kn x = false) (h2 : kn' x = false) : ∃ A B, came k kn kn' = A ++ B ∧ came k kn (upd kn' x true) = A ++ x :: B ∧ (∀ a ∈ A, a < x) ∧ ∀ b ∈ B, x < b := by
  obtain ⟨B, hb1, hb2, hb3⟩ := filter_ins (fun r => kn' r && !kn r) x (by simp [h2]) k hx
  refine ⟨_, B, hb1, ?_, fun a ha => List.mem_range.1 (List.mem_filter.1 ha).1, hb3⟩
  rw [← hb2]
  refine List.filter_congr fun r _ => ?_
  by_cases c : r = x
  · subst c; simp [upd, h1]
  · have c' : ¬ x = r := fun e => c e.symm
    simp [upd, c, c']
theorem outB_snoc (B : Nat → ByteArray) (x r : Nat) (s : List Nat) (b : ByteArray) : outB B x (s ++ [r]) b = if r = x then outB B x s b else xorB (outB B x s b) (B r) := by unfold outB; rw [List.foldl_append]; rfl
theorem came_len16 (k : Nat) (kn kn' : Nat → Bool) : (came k kn kn').length ≤ k := Nat.le_trans (List.length_filter_le _ _) (by simp)
/-- One more is put. -/
theorem rput_came {k x : Nat} {kn kn' : Nat → Bool} {vo : Value} {w : World} (hk2 : k ≤ 16) (hx : x < k) (h1 : kn x = false) (h2 : kn' x = false) (hl : Lsh w vo (came k kn kn')) (hn : came k kn kn' = [] → vo = .slice none 0 0) :
    Calls Tryd.prog 32 #[vo, .int .i64 (x : Nat)] w fun e w' => ∃ v, e = .returned v ∧ Lst w' v (came k kn (upd kn' x true)) ∧ Below w.heap.size w w' ∧ ∀ i, v.ownBlock = some i → w.heap.size ≤ i := by
  obtain ⟨A, B, hA1, hA2, hA3, hA4⟩ := came_ins hx h1 h2
  have hc16 := came_len16 k kn kn'
  rw [hA2]
  by_cases c0 : came k kn kn' = []
  · rw [hn c0]
    have hAB : A = [] ∧ B = [] := List.append_eq_nil_iff.1 (by rw [← hA1]; exact c0)
    obtain ⟨rfl, rfl⟩ := hAB
    exact rput_nil x w (by omega)
  · have hpos : 0 < (came k kn kn').length := List.length_pos_iff.2 c0
    obtain ⟨a9, c9, hv9, h91, h92, h93⟩ := hl
    obtain ⟨g9, c9', hv9', h94, h95, h96⟩ := h93 hpos
    rw [hv9']
    exact rput_ok g9 c9' _ A B x w hA1 hpos (by omega) h94 h95 (by omega) h96 hA3 hA4
theorem came_some {k x : Nat} {kn kn' : Nat → Bool} (hx : x < k) (h1 : kn x = false) (h2 : kn' x = false) : came k kn (upd kn' x true) ≠ [] := by
  obtain ⟨A, B, hA1, hA2, hA3, hA4⟩ := came_ins hx h1 h2
  rw [hA2]; simp
end Go.Proofs.YtopibfbpecjgbaaDoor
