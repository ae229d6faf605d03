/-
  Lemmas for the law above, joined into one text (DropM, DrC). No statement is proved here.
-/
import Derived.Test.YtjgifjkdgoijmaaPG5
import Derived.Test.YtjgifjkdgoijmaaPG6
import Derived.Test.YtjgifjkdgoijmaaPG9
import Derived.Test.YtjgifjkdgoijmaaPG0
import Derived.Test.YtjgifjkdgoijmaaPG4
import Derived.Laws.AppendOwnNone
import Derived.Deep.AppendLies
namespace Go.Proofs.Ytjgifjkdgoijmaa
open Go.RowKit Go.Maps
set_option linter.unusedVariables false
set_option maxRecDepth 100000

set_option maxHeartbeats 1000000 in
theorem make_check (l : Value) (seed : Int) (w : World) (x : Int)
    (hK : ∀ w1, Below w.heap.size w w1 → Calls Try.prog 12 #[l] w1 fun e w' => e = .returned (.iface 40 (.int .i64 x)) ∧ Below w1.heap.size w1 w') :
    Calls Try.prog 5 #[l, .int .i64 seed] w fun e w' => e = .returned (.tuple #[dropV 0 ⟨#[]⟩, .iface 40 (.int .i64 x)]) ∧ Below w.heap.size w w' := by
  have hb0 : Below w.heap.size w (w.alloc (.cells #[.int .i64 0, .string ⟨#[]⟩] 28)) := (Below.refl _ _).alloc (Nat.le_refl _) _
  have K := hide (hK _ hb0)
  have HB0 := hide hb0
  clear hK hb0
  go_enter Try.func5, Try.ntmps5
  go_wp2_with fail
  refine (K.out).mono ?_
  rintro e w1 ⟨rfl, hb⟩
  have HD := hide ((dropIn_new w 0 ⟨#[]⟩).below hb)
  obtain ⟨⟨c0, f0⟩, c1, f1⟩ := HD.out
  have HB := hide (below_two HB0.out hb)
  clear hb HB0
  go_wp2
  refine bodyPost_ret (v := .tuple #[dropV 0 ⟨#[]⟩, .iface 40 (.int .i64 x)]) (by simp only [Nat.zero_add] at c1; simp [results, Try.results5, go_sem, dropV, c0, c1]) rfl ⟨rfl, ?_⟩
  exact (HB.out.setCell (Nat.le_refl _) _).setCell (Nat.le_refl _) _

theorem setL_good {k seed : Nat} (hk : 1 ≤ k) (h1 : 1 ≤ seed) : ∀ i, i < (setL k seed).length → goodAt (fun i => (((setL k seed).getD i 0 : Nat) : Int)) k i := fun i hi => by
  have hm : ∀ j, (h : j < (setL k seed).length) → (setL k seed).getD j 0 = (setL k seed)[j] := fun j h => by simp [List.getD, h]
  refine ⟨⟨Int.natCast_nonneg _, ?_⟩, fun j hj => ?_⟩
  · show (((setL k seed).getD i 0 : Nat) : Int) < k
    rw [hm i hi]
    have := setL_lt hk h1 (List.getElem_mem hi)
    omega
  · show (((setL k seed).getD j 0 : Nat) : Int) ≠ (((setL k seed).getD i 0 : Nat) : Int)
    rw [hm i hi, hm j (by omega)]
    have := List.pairwise_iff_getElem.1 (setL_rise k seed) j i (by omega) hi hj
    omega

/-- What is in a drop of the blocks g. -/
noncomputable def dropB (g : Nat → ByteArray) (k seed : Nat) : ByteArray := sumB g (fun i => (((setL k seed).getD i 0 : Nat) : Int)) (setL k seed).length
theorem dropB_size (g : Nat → ByteArray) (k seed : Nat) : (dropB g k seed).size = (g 0).size := sumB_size _ _ _

set_option maxHeartbeats 1000000 in
theorem make_seed (b o len cap : Nat) (g : Nat → ByteArray) (seed : Int) (w : World) (hl0 : 0 < len) (hlen : len ≤ 16)
    (hcell : ∀ i, i < len → w.cell? ⟨b, o + i, none⟩ = some (.string (g i))) (h1 : 1 ≤ (g 0).size) (h8 : (g 0).size ≤ 8) (hs : ∀ i, i < len → (g i).size = (g 0).size) (hseed : seed < 1 ∨ 10000 < seed) :
    Calls Try.prog 5 #[.slice (some ⟨b, o, none⟩) len cap, .int .i64 seed] w fun e w' => e = .returned (.tuple #[dropV 0 ⟨#[]⟩, .iface 40 (.int .i64 1)]) ∧ Below w.heap.size w w' := by
  have hb0 : Below w.heap.size w (w.alloc (.cells #[.int .i64 0, .string ⟨#[]⟩] 28)) := (Below.refl _ _).alloc (Nat.le_refl _) _
  have K := hide (check_ok b o len cap g _ hl0 hlen (fun i hi => cell_below hb0 (hcell i hi)) h1 h8 hs)
  have S := hide (fun w1 => set_range len seed w1 (Or.inr hseed))
  have HB0 := hide hb0
  clear hcell hs hb0 hseed
  go_enter Try.func5, Try.ntmps5
  go_wp2_with fail
  refine (K.out).mono ?_
  rintro e w1 ⟨rfl, hb⟩
  obtain ⟨⟨c0, f0⟩, c1, f1⟩ := (dropIn_new w 0 ⟨#[]⟩).below hb
  have HB := hide (below_two HB0.out hb)
  clear hb HB0
  go_wp2_with fail
  refine (S.out w1).mono ?_
  rintro e w2 ⟨rfl, rfl⟩
  go_wp2
  refine bodyPost_ret (v := .tuple #[dropV 0 ⟨#[]⟩, .iface 40 (.int .i64 1)]) (by simp only [Nat.zero_add] at c1; simp [results, Try.results5, go_sem, dropV, c0, c1]) rfl ⟨rfl, ?_⟩
  exact (HB.out.setCell (Nat.le_refl _) _).setCell (Nat.le_refl _) _

set_option maxHeartbeats 1000000 in
theorem make_ok (b o len cap : Nat) (g : Nat → ByteArray) (seed : Nat) (w : World) (hl0 : 0 < len) (hlen : len ≤ 16)
    (hcell : ∀ i, i < len → w.cell? ⟨b, o + i, none⟩ = some (.string (g i))) (h1 : 1 ≤ (g 0).size) (h8 : (g 0).size ≤ 8) (hs : ∀ i, i < len → (g i).size = (g 0).size) (hs1 : 1 ≤ seed) (hs2 : seed ≤ 10000) :
    Calls Try.prog 5 #[.slice (some ⟨b, o, none⟩) len cap, .int .i64 seed] w fun e w' => e = .returned (.tuple #[dropV seed (dropB g len seed), .nilIface]) ∧ Below w.heap.size w w' := by
  have hb0 : Below w.heap.size w (w.alloc (.cells #[.int .i64 0, .string ⟨#[]⟩] 28)) := (Below.refl _ _).alloc (Nat.le_refl _) _
  have K := hide (check_ok b o len cap g _ hl0 hlen (fun i hi => cell_below hb0 (hcell i hi)) h1 h8 hs)
  have S := hide (fun w1 => set_ok len seed w1 hl0 hlen hs1 hs2)
  have U : Hid (∀ w1, Below w.heap.size w w1 → ∀ v, Lst w1 v (setL len seed) → Calls Try.prog 14 #[.slice (some ⟨b, o, none⟩) len cap, v] w1 fun e w' => e = .returned (.tuple #[.string (dropB g len seed), .nilIface]) ∧ Below w1.heap.size w1 w') := by
    rintro w1 hb v ⟨p, cap2, rfl, hc1, hc2, hc⟩
    exact sum_ok b o len cap p 0 _ cap2 g _ w1 hl0 hlen (fun i hi => cell_below hb (hcell i hi)) h1 h8 hs (setL_len hl0 hlen hs1 hs2).1 hc1 hc2 hc (setL_good hl0 hs1)
  have HB0 := hide hb0
  clear hcell hs hb0
  generalize dropB g len seed = z at *
  go_enter Try.func5, Try.ntmps5
  go_wp2_with fail
  refine (K.out).mono ?_
  rintro e w1 ⟨rfl, hb⟩
  have HD := hide ((dropIn_new w 0 ⟨#[]⟩).below hb)
  have HB := hide (below_two HB0.out hb)
  clear hb HB0
  go_wp2_with fail
  refine (S.out w1).mono ?_
  rintro e w2 ⟨v, rfl, hl, hb2⟩
  have U2 := hide (U.out w2 (below_two HB.out hb2) v hl)
  have HD2 := hide (HD.out.below hb2)
  have HB2 := hide (below_two HB.out hb2)
  clear hl hb2
  go_wp2_with fail
  refine (U2.out).mono ?_
  rintro e w3 ⟨rfl, hb3⟩
  obtain ⟨⟨c0, f0⟩, c1, f1⟩ := HD2.out.below hb3
  have HB3 := hide (below_two HB2.out hb3)
  clear hb3
  go_wp2
  refine bodyPost_ret (v := .tuple #[dropV seed z, .nilIface]) (by simp only [Nat.zero_add] at c1; simp [results, Try.results5, go_sem, dropV, c0, c1]) rfl ⟨rfl, ?_⟩
  exact (HB3.out.setCell (Nat.le_refl _) _).setCell (Nat.le_refl _) _

set_option maxHeartbeats 1000000 in
theorem dcheck_ok (k size seed : Int) (s : ByteArray) (w : World) (h1 : 1 ≤ k ∧ k ≤ 16) (h2 : 1 ≤ size ∧ size ≤ 8) (h3 : 1 ≤ seed ∧ seed ≤ 10000) (h4 : (s.size : Int) = size) :
    Calls Try.prog 17 #[.int .i64 k, .int .i64 size, dropV seed s] w fun e w' => e = .returned .nilIface ∧ Below w.heap.size w w' := by
  have W1 := hide (fun w => within_ok k 16 w h1.1 h1.2)
  have W2 := hide (fun w => within_ok size 8 w h2.1 h2.2)
  have W3 := hide (fun w => within_ok seed 10000 w h3.1 h3.2)
  unfold dropV
  have hne : ((s.size : Int) == size) = true := by simp [h4]
  go_enter Try.func17, Try.ntmps17
  go_wp2_with fail
  refine (W1.out _).mono ?_
  rintro e w1 ⟨rfl, rfl⟩
  go_wp2_with fail
  refine (W2.out _).mono ?_
  rintro e w1 ⟨rfl, rfl⟩
  go_wp2_with fail
  refine (W3.out _).mono ?_
  rintro e w1 ⟨rfl, rfl⟩
  go_wp2
  go_ret
  exact ⟨rfl, (Below.refl _ _).alloc (Nat.le_refl _) _⟩
set_option maxHeartbeats 1000000 in
theorem dcheck_shape (k size seed : Int) (s : ByteArray) (w : World) (h1 : 1 ≤ k ∧ k ≤ 16) (h2 : 1 ≤ size ∧ size ≤ 8) (h3 : 1 ≤ seed ∧ seed ≤ 10000) (h4 : (s.size : Int) ≠ size) :
    Calls Try.prog 17 #[.int .i64 k, .int .i64 size, dropV seed s] w fun e w' => e = .returned (.iface 40 (.int .i64 3)) ∧ Below w.heap.size w w' := by
  have W1 := hide (fun w => within_ok k 16 w h1.1 h1.2)
  have W2 := hide (fun w => within_ok size 8 w h2.1 h2.2)
  have W3 := hide (fun w => within_ok seed 10000 w h3.1 h3.2)
  have hne : ((s.size : Int) == size) = false := by simp [h4]
  unfold dropV
  go_enter Try.func17, Try.ntmps17
  go_wp2_with fail
  refine (W1.out _).mono ?_
  rintro e w1 ⟨rfl, rfl⟩
  go_wp2_with fail
  refine (W2.out _).mono ?_
  rintro e w1 ⟨rfl, rfl⟩
  go_wp2_with fail
  refine (W3.out _).mono ?_
  rintro e w1 ⟨rfl, rfl⟩
  go_wp2
  go_ret
  exact ⟨rfl, (Below.refl _ _).alloc (Nat.le_refl _) _⟩
set_option maxHeartbeats 1000000 in
theorem dcheck_range (k size seed : Int) (s : ByteArray) (w : World) (h : ¬ ((1 ≤ k ∧ k ≤ 16) ∧ (1 ≤ size ∧ size ≤ 8) ∧ 1 ≤ seed ∧ seed ≤ 10000)) :
    Calls Try.prog 17 #[.int .i64 k, .int .i64 size, dropV seed s] w fun e w' => e = .returned (.iface 40 (.int .i64 1)) ∧ Below w.heap.size w w' := by
  by_cases h1 : 1 ≤ k ∧ k ≤ 16
  · have W1 := hide (fun w => within_ok k 16 w h1.1 h1.2)
    by_cases h2 : 1 ≤ size ∧ size ≤ 8
    · have W2 := hide (fun w => within_ok size 8 w h2.1 h2.2)
      have W3 := hide (fun w => within_not seed 10000 w (by omega))
      clear h h1 h2
      unfold dropV
      go_enter Try.func17, Try.ntmps17
      go_wp2_with fail
      refine (W1.out _).mono ?_
      rintro e w1 ⟨rfl, rfl⟩
      go_wp2_with fail
      refine (W2.out _).mono ?_
      rintro e w1 ⟨rfl, rfl⟩
      go_wp2_with fail
      refine (W3.out _).mono ?_
      rintro e w1 ⟨rfl, rfl⟩
      go_wp2
      go_ret
      exact ⟨rfl, (Below.refl _ _).alloc (Nat.le_refl _) _⟩
    · have W2 := hide (fun w => within_not size 8 w (by omega))
      clear h h1 h2
      unfold dropV
      go_enter Try.func17, Try.ntmps17
      go_wp2_with fail
      refine (W1.out _).mono ?_
      rintro e w1 ⟨rfl, rfl⟩
      go_wp2_with fail
      refine (W2.out _).mono ?_
      rintro e w1 ⟨rfl, rfl⟩
      go_wp2
      go_ret
      exact ⟨rfl, (Below.refl _ _).alloc (Nat.le_refl _) _⟩
  · have W1 := hide (fun w => within_not k 16 w (by omega))
    clear h h1
    unfold dropV
    go_enter Try.func17, Try.ntmps17
    go_wp2_with fail
    refine (W1.out _).mono ?_
    rintro e w1 ⟨rfl, rfl⟩
    go_wp2
    go_ret
    exact ⟨rfl, (Below.refl _ _).alloc (Nat.le_refl _) _⟩
end Go.Proofs.Ytjgifjkdgoijmaa

namespace Go.Proofs.Ytjgifjkdgoijmaa
open Go.RowKit Go.Maps
set_option linter.unusedVariables false
set_option maxRecDepth 100000

/-- A drop: its seed, its data. -/
abbrev Drp := Nat × ByteArray
/-- Drops as a slice holds them. -/
def dC (L : List Drp) : List Value := L.flatMap fun d => [.int .i64 (d.1 : Nat), .string d.2]
theorem dC_snoc (L : List Drp) (d : Drp) : dC (L ++ [d]) = dC L ++ [.int .i64 (d.1 : Nat), .string d.2] := by simp [dC]
theorem Try.infoDrop : (Try.prog.info? 28).map (fun i => (i.zero, i.size, i.bytes)) = some (some (.agg #[.int .i64 0, .string ⟨#[]⟩]), 2, 24) := by kernel_rfl

theorem off_ne {b i j : Nat} (h : i ≠ j) : (⟨b, i, none⟩ : Addr) ≠ ⟨b, j, none⟩ := fun e => h (by injection e)
theorem cell_set_off {w : World} {b i j : Nat} {u : Value} (h : i ≠ j) : (w.setCell ⟨b, i, none⟩ u).cell? ⟨b, j, none⟩ = w.cell? ⟨b, j, none⟩ := World.cell?_setCell_other _ _ _ _ (off_ne h)
theorem frozen_set {w : World} {a c : Addr} {u : Value} : (w.setCell a u).frozen? c = w.frozen? c := World.frozen?_setCell _ _ _ _
theorem own_set {w : World} {B e size n : Nat} {v u : Value} {xs : List Value} {a : Addr} (h : w.ownsRow B e size v n xs) (hne : v.ownBlock ≠ some a.block) : (w.setCell a u).ownsRow B e size v n xs := by
  refine ⟨h.1, ?_⟩
  rcases h.2 with hn | ⟨g, cap, cur, hv, h1, hgg, rest⟩
  · exact .inl hn
  · refine .inr ⟨g, cap, cur, hv, h1, ?_, rest⟩
    rw [Below.heap_setCell w a u g (fun e => hne (by rw [hv, ← e]; rfl))]
    exact hgg

/-- The drop at j. -/
def dAt (L : List Drp) (j : Nat) : Drp := L.getD j (0, ⟨#[]⟩)
theorem dAt_mem {L : List Drp} {j : Nat} (h : j < L.length) : dAt L j ∈ L := by
  unfold dAt; rw [show L.getD j (0, ⟨#[]⟩) = L[j] by simp [List.getD, h]]; exact List.getElem_mem h
theorem take_dAt {L : List Drp} {j : Nat} (h : j < L.length) : L.take (j + 1) = L.take j ++ [dAt L j] := by rw [List.take_add_one]; simp [dAt, List.getD, h]
theorem dC_at : ∀ (L : List Drp) (j : Nat), j < L.length → (dC L)[j * 2]? = some (.int .i64 ((dAt L j).1 : Nat)) ∧ (dC L)[j * 2 + 1]? = some (.string (dAt L j).2)
  | [], j, h => absurd h (Nat.not_lt_zero _)
  | d :: L, 0, _ => by simp [dC, dAt]
  | d :: L, j + 1, h => by
    have ih := dC_at L j (by simpa using h)
    have e : dC (d :: L) = [.int .i64 (d.1 : Nat), .string d.2] ++ dC L := by simp [dC]
    have e2 : dAt (d :: L) (j + 1) = dAt L j := by simp [dAt]
    rw [e, e2, show (j + 1) * 2 = 2 + j * 2 by omega, show 2 + j * 2 + 1 = 2 + (j * 2 + 1) by omega]
    rw [List.getElem?_append_right (by simp), List.getElem?_append_right (by simp)]
    simp only [List.length_cons, List.length_nil]
    rw [show 2 + j * 2 - (0 + 1 + 1) = j * 2 by omega, show 2 + (j * 2 + 1) - (0 + 1 + 1) = j * 2 + 1 by omega]
    exact ih
/-- Drops that are owned, opened. -/
theorem own_drops {w : World} {B : Nat} {v : Value} {L : List Drp} (h : w.ownsRow B 28 2 v L.length (dC L)) :
    ∃ a cap, v = .slice a L.length cap ∧ L.length ≤ cap ∧ cap ≤ maxLen ∧ (0 < L.length → ∃ g, a = some ⟨g, 0, none⟩) ∧ ∀ g, a = some ⟨g, 0, none⟩ → ∀ j, j < L.length → w.cell? ⟨g, j * 2, none⟩ = some (.int .i64 ((dAt L j).1 : Nat)) ∧ w.cell? ⟨g, j * 2 + 1, none⟩ = some (.string (dAt L j).2) := by
  have h' := h
  rcases h.2 with ⟨hv, h0⟩ | ⟨g, cap, cur, hv, _, hg, h1, h2, hcs, hcur⟩
  · exact ⟨none, 0, by rw [h0]; exact hv, by omega, by unfold maxLen; omega, fun h => by omega, fun g e => by cases e⟩
  · refine ⟨_, cap, hv, h1, h2, fun _ => ⟨g, rfl⟩, fun g' e j hj => ?_⟩
    cases e
    rw [hv] at h'
    rw [h'.cellAt (j * 2) (by omega), h'.cellAt (j * 2 + 1) (by omega)]
    exact dC_at L j hj
theorem own_mono {w : World} {B B' e size n : Nat} {v : Value} {xs : List Value} (h : w.ownsRow B e size v n xs) (hb : B' ≤ B) : w.ownsRow B' e size v n xs :=
  ⟨h.1, h.2.imp id fun ⟨g, cap, cur, h1, h2, h3⟩ => ⟨g, cap, cur, h1, Nat.le_trans hb h2, h3⟩⟩
theorem below_grown {w w' : World} (h : Below w.heap.size w w') : w.grownBy w' none := ⟨h.os, h.tape, h.output, h.size, fun i hi _ => h.block i hi⟩
theorem below_two' {w0 w w' : World} (h : Below w0.heap.size w0 w) (k : Below w.heap.size w w') : Below w0.heap.size w0 w' := below_two h k
theorem kept_below {M : Nat → Prop} {w0 w w' : World} (h : Below w0.heap.size w0 w) (k : Kept M w w') (hm : ∀ i, M i → w0.heap.size ≤ i) : Below w0.heap.size w0 w' :=
  ⟨k.os.trans h.os, k.tape.trans h.tape, k.output.trans h.output, Nat.le_trans h.size k.size, fun i hi => (k.block i (Nat.lt_of_lt_of_le hi h.size) (fun e => by have := hm i e; omega)).trans (h.block i hi)⟩
theorem own_blk {w w' : World} {B e size n : Nat} {v : Value} {xs : List Value} (h : w.ownsRow B e size v n xs) (hb : ∀ i, v.ownBlock = some i → w'.heap[i]? = w.heap[i]?) : w'.ownsRow B e size v n xs := by
  refine ⟨h.1, ?_⟩
  rcases h.2 with hn | ⟨g, cap, cur, hv, h1, hgg, rest⟩
  · exact .inl hn
  · exact .inr ⟨g, cap, cur, hv, h1, (hb g (by rw [hv]; rfl)).trans hgg, rest⟩

theorem Kept.mono {M M' : Nat → Prop} {w w' : World} (h : Kept M w w') (hm : ∀ i, M i → M' i) : Kept M' w w' := ⟨h.os, h.tape, h.output, h.size, fun i hi hn => h.block i hi fun e => hn (hm i e)⟩
theorem Kept.trans {M M' : Nat → Prop} {w w1 w2 : World} (h : Kept M w w1) (k : Kept M' w1 w2) (hm : ∀ i, i < w.heap.size → M' i → M i) : Kept M w w2 :=
  ⟨k.os.trans h.os, k.tape.trans h.tape, k.output.trans h.output, Nat.le_trans h.size k.size, fun i hi hn => (k.block i (Nat.lt_of_lt_of_le hi h.size) (fun e => hn (hm i hi e))).trans (h.block i hi hn)⟩
theorem dC_len (L : List Drp) : (dC L).length = L.length * 2 := by
  induction L with
  | nil => rfl
  | cons d L ih =>
    have e : dC (d :: L) = [.int .i64 (d.1 : Nat), .string d.2] ++ dC L := by simp [dC]
    rw [e, List.length_append, ih]; simp; omega
theorem dC_append (L M : List Drp) : dC (L ++ M) = dC L ++ dC M := by simp [dC]
theorem dC_take : ∀ (L : List Drp) (i : Nat), (dC L).take (i * 2) = dC (L.take i)
  | [], i => by simp [dC]
  | y :: L, 0 => by simp [dC]
  | y :: L, i + 1 => by
    have e : ∀ y Y, dC (y :: Y) = .int .i64 (y.1 : Nat) :: .string y.2 :: dC Y := fun y Y => by simp [dC]
    rw [List.take_succ_cons, e, e, show (i + 1) * 2 = i * 2 + 1 + 1 by omega]
    simp only [List.take_succ_cons]
    rw [dC_take L i]
theorem dC_drop : ∀ (L : List Drp) (i : Nat), (dC L).drop (i * 2) = dC (L.drop i)
  | [], i => by simp [dC]
  | y :: L, 0 => by simp
  | y :: L, i + 1 => by
    have e : ∀ y Y, dC (y :: Y) = .int .i64 (y.1 : Nat) :: .string y.2 :: dC Y := fun y Y => by simp [dC]
    rw [List.drop_succ_cons, e, show (i + 1) * 2 = i * 2 + 1 + 1 by omega]
    simp only [List.drop_succ_cons]
    rw [dC_drop L i]
theorem dC_one (L : List Drp) : ∀ u ∈ dC L, u.oneCell' = true := fun u hu => by
  obtain ⟨d, _, hd⟩ := List.mem_flatMap.1 hu
  rcases List.mem_cons.1 hd with rfl | hd
  · rfl
  · rw [List.mem_singleton.1 hd]; rfl
end Go.Proofs.Ytjgifjkdgoijmaa
