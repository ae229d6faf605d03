/-
  Our own contracts of drop.Make and drop.Check over this seat's translation. Lemmas for the laws above; no statement is proved here.
-/
import Derived.Test.YtldjbampimbaeaaDoorDropS
import Derived.Test.YtldjbampimbaeaaDoorSum
namespace Go.Proofs.YtldjbampimbaeaaDoor
open Go.RowKit Go.Maps
set_option linter.unusedVariables false
set_option maxRecDepth 100000

/-- A Drop. -/
def dropV (seed : Int) (s : ByteArray) : Value := .agg #[.int .i64 seed, .string s]

/-- A block that holds a Drop, none of it frozen. -/
def DropIn (w : World) (b : Nat) (seed : Int) (s : ByteArray) : Prop :=
  (w.cell? ⟨b, 0, none⟩ = some (.int .i64 seed) ∧ w.frozen? ⟨b, 0, none⟩ = false) ∧ w.cell? ⟨b, 0 + 1, none⟩ = some (.string s) ∧ w.frozen? ⟨b, 0 + 1, none⟩ = false
theorem dropIn_new (w : World) (seed : Int) (s : ByteArray) : DropIn (w.alloc (.cells #[.int .i64 seed, .string s] 38)) w.heap.size seed s :=
  ⟨⟨by simp, by simp only [World.frozen?, (MapKept.heap_alloc w _).1]; simp⟩, by simp, by simp only [World.frozen?, (MapKept.heap_alloc w _).1]; simp⟩
theorem DropIn.lt {w : World} {b : Nat} {seed : Int} {s : ByteArray} (h : DropIn w b seed s) : b < w.heap.size := cell_lt h.1.1
theorem DropIn.below {w w' : World} {b : Nat} {seed : Int} {s : ByteArray} (h : DropIn w b seed s) (hb : Below w.heap.size w w') : DropIn w' b seed s :=
  ⟨⟨(hb.cell h.lt).trans h.1.1, (hb.frozen h.lt).trans h.1.2⟩, (hb.cell h.lt).trans h.2.1, (hb.frozen h.lt).trans h.2.2⟩

set_option maxHeartbeats 1000000 in
theorem make_check (l : Value) (seed : Int) (w : World) (x : Int)
    (hK : ∀ w1, Below w.heap.size w w1 → Calls Tryd.prog 28 #[l] w1 fun e w' => e = .returned (.iface 52 (.int .i64 x)) ∧ Below w1.heap.size w1 w') :
    Calls Tryd.prog 12 #[l, .int .i64 seed] w fun e w' => e = .returned (.tuple #[dropV 0 ⟨#[]⟩, .iface 52 (.int .i64 x)]) ∧ Below w.heap.size w w' := by
  have hb0 : Below w.heap.size w (w.alloc (.cells #[.int .i64 0, .string ⟨#[]⟩] 38)) := (Below.refl _ _).alloc (Nat.le_refl _) _
  have K := hide (hK _ hb0)
  have HB0 := hide hb0
  clear hK hb0
  go_enter Tryd.func12, Tryd.ntmps12
  go_wp2_with fail
  refine (K.out).mono ?_
  rintro e w1 ⟨rfl, hb⟩
  have HD := hide ((dropIn_new w 0 ⟨#[]⟩).below hb)
  obtain ⟨⟨c0, f0⟩, c1, f1⟩ := HD.out
  have HB := hide (below_two HB0.out hb)
  clear hb HB0
  go_wp2
  refine bodyPost_ret (v := .tuple #[dropV 0 ⟨#[]⟩, .iface 52 (.int .i64 x)]) (by simp only [Nat.zero_add] at c1; simp [results, Tryd.results12, go_sem, dropV, c0, c1]) rfl ⟨rfl, ?_⟩
  exact (HB.out.setCell (Nat.le_refl _) _).setCell (Nat.le_refl _) _

theorem setL_good {k seed : Nat} (hk : 1 ≤ k) (h1 : 1 ≤ seed) : ∀ i, i < (setL k seed).length → goodAt (fun i => (((setL k seed).getD i 0 : Nat) : Int)) k i := fun i hi => by
  have hm : ∀ j, (h : j < (setL k seed).length) → (setL k seed).getD j 0 = (setL k seed)[j] := fun j h => by simp [List.getD, h]
  refine ⟨⟨Int.natCast_nonneg _, ?_⟩, fun j hj => ?_⟩
  · show (((setL k seed).getD i 0 : Nat) : Int) < k
    rw [hm i hi]
    have := setL_lt hk h1 (List.getElem_mem hi)
    omega
  · show (((setL k seed).getD j 0 : Nat) : Int) ≠ (((setL k seed).getD i 0 : Nat) : Int)
    rw [hm i hi, hm j (by omega)]
    have := List.pairwise_iff_getElem.1 (setL_rise k seed) j i (by omega) hi hj
    omega

/-- What is in a drop of the blocks g. -/
noncomputable def dropB (g : Nat → ByteArray) (k seed : Nat) : ByteArray := sumB g (fun i => (((setL k seed).getD i 0 : Nat) : Int)) (setL k seed).length
theorem dropB_size (g : Nat → ByteArray) (k seed : Nat) : (dropB g k seed).size = (g 0).size := sumB_size _ _ _

set_option maxHeartbeats 1000000 in
theorem make_seed (b o len cap : Nat) (g : Nat → ByteArray) (seed : Int) (w : World) (hl0 : 0 < len) (hlen : len ≤ 16)
    (hcell : ∀ i, i < len → w.cell? ⟨b, o + i, none⟩ = some (.string (g i))) (h1 : 1 ≤ (g 0).size) (h8 : (g 0).size ≤ 8) (hs : ∀ i, i < len → (g i).size = (g 0).size) (hseed : seed < 1 ∨ 10000 < seed) :
    Calls Tryd.prog 12 #[.slice (some ⟨b, o, none⟩) len cap, .int .i64 seed] w fun e w' => e = .returned (.tuple #[dropV 0 ⟨#[]⟩, .iface 52 (.int .i64 1)]) ∧ Below w.heap.size w w' := by
  have hb0 : Below w.heap.size w (w.alloc (.cells #[.int .i64 0, .string ⟨#[]⟩] 38)) := (Below.refl _ _).alloc (Nat.le_refl _) _
  have K := hide (check_ok b o len cap g _ hl0 hlen (fun i hi => cell_below hb0 (hcell i hi)) h1 h8 hs)
  have S := hide (fun w1 => set_range len seed w1 (Or.inr hseed))
  have HB0 := hide hb0
  clear hcell hs hb0 hseed
  go_enter Tryd.func12, Tryd.ntmps12
  go_wp2_with fail
  refine (K.out).mono ?_
  rintro e w1 ⟨rfl, hb⟩
  obtain ⟨⟨c0, f0⟩, c1, f1⟩ := (dropIn_new w 0 ⟨#[]⟩).below hb
  have HB := hide (below_two HB0.out hb)
  clear hb HB0
  go_wp2_with fail
  refine (S.out w1).mono ?_
  rintro e w2 ⟨rfl, rfl⟩
  go_wp2
  refine bodyPost_ret (v := .tuple #[dropV 0 ⟨#[]⟩, .iface 52 (.int .i64 1)]) (by simp only [Nat.zero_add] at c1; simp [results, Tryd.results12, go_sem, dropV, c0, c1]) rfl ⟨rfl, ?_⟩
  exact (HB.out.setCell (Nat.le_refl _) _).setCell (Nat.le_refl _) _

set_option maxHeartbeats 1000000 in
theorem make_ok (b o len cap : Nat) (g : Nat → ByteArray) (seed : Nat) (w : World) (hl0 : 0 < len) (hlen : len ≤ 16)
    (hcell : ∀ i, i < len → w.cell? ⟨b, o + i, none⟩ = some (.string (g i))) (h1 : 1 ≤ (g 0).size) (h8 : (g 0).size ≤ 8) (hs : ∀ i, i < len → (g i).size = (g 0).size) (hs1 : 1 ≤ seed) (hs2 : seed ≤ 10000) :
    Calls Tryd.prog 12 #[.slice (some ⟨b, o, none⟩) len cap, .int .i64 seed] w fun e w' => e = .returned (.tuple #[dropV seed (dropB g len seed), .nilIface]) ∧ Below w.heap.size w w' := by
  have hb0 : Below w.heap.size w (w.alloc (.cells #[.int .i64 0, .string ⟨#[]⟩] 38)) := (Below.refl _ _).alloc (Nat.le_refl _) _
  have K := hide (check_ok b o len cap g _ hl0 hlen (fun i hi => cell_below hb0 (hcell i hi)) h1 h8 hs)
  have S := hide (fun w1 => set_ok len seed w1 hl0 hlen hs1 hs2)
  have U : Hid (∀ w1, Below w.heap.size w w1 → ∀ v, Lst w1 v (setL len seed) → Calls Tryd.prog 30 #[.slice (some ⟨b, o, none⟩) len cap, v] w1 fun e w' => e = .returned (.tuple #[.string (dropB g len seed), .nilIface]) ∧ Below w1.heap.size w1 w') := by
    rintro w1 hb v ⟨p, cap2, rfl, hc1, hc2, hc⟩
    exact sum_ok b o len cap p 0 _ cap2 g _ w1 hl0 hlen (fun i hi => cell_below hb (hcell i hi)) h1 h8 hs (setL_len hl0 hlen hs1 hs2).1 hc1 hc2 hc (setL_good hl0 hs1)
  have HB0 := hide hb0
  clear hcell hs hb0
  generalize dropB g len seed = z at *
  go_enter Tryd.func12, Tryd.ntmps12
  go_wp2_with fail
  refine (K.out).mono ?_
  rintro e w1 ⟨rfl, hb⟩
  have HD := hide ((dropIn_new w 0 ⟨#[]⟩).below hb)
  have HB := hide (below_two HB0.out hb)
  clear hb HB0
  go_wp2_with fail
  refine (S.out w1).mono ?_
  rintro e w2 ⟨v, rfl, hl, hb2⟩
  have U2 := hide (U.out w2 (below_two HB.out hb2) v hl)
  have HD2 := hide (HD.out.below hb2)
  have HB2 := hide (below_two HB.out hb2)
  clear hl hb2
  go_wp2_with fail
  refine (U2.out).mono ?_
  rintro e w3 ⟨rfl, hb3⟩
  obtain ⟨⟨c0, f0⟩, c1, f1⟩ := HD2.out.below hb3
  have HB3 := hide (below_two HB2.out hb3)
  clear hb3
  go_wp2
  refine bodyPost_ret (v := .tuple #[dropV seed z, .nilIface]) (by simp only [Nat.zero_add] at c1; simp [results, Tryd.results12, go_sem, dropV, c0, c1]) rfl ⟨rfl, ?_⟩
  exact (HB3.out.setCell (Nat.le_refl _) _).setCell (Nat.le_refl _) _

set_option maxHeartbeats 1000000 in
theorem dcheck_ok (k size seed : Int) (s : ByteArray) (w : World) (h1 : 1 ≤ k ∧ k ≤ 16) (h2 : 1 ≤ size ∧ size ≤ 8) (h3 : 1 ≤ seed ∧ seed ≤ 10000) (h4 : (s.size : Int) = size) :
    Calls Tryd.prog 41 #[.int .i64 k, .int .i64 size, dropV seed s] w fun e w' => e = .returned .nilIface ∧ Below w.heap.size w w' := by
  have W1 := hide (fun w => within_ok k 16 w h1.1 h1.2)
  have W2 := hide (fun w => within_ok size 8 w h2.1 h2.2)
  have W3 := hide (fun w => within_ok seed 10000 w h3.1 h3.2)
  unfold dropV
  have hne : ((s.size : Int) == size) = true := by simp [h4]
  go_enter Tryd.func41, Tryd.ntmps41
  go_wp2_with fail
  refine (W1.out _).mono ?_
  rintro e w1 ⟨rfl, rfl⟩
  go_wp2_with fail
  refine (W2.out _).mono ?_
  rintro e w1 ⟨rfl, rfl⟩
  go_wp2_with fail
  refine (W3.out _).mono ?_
  rintro e w1 ⟨rfl, rfl⟩
  go_wp2
  go_ret
  exact ⟨rfl, (Below.refl _ _).alloc (Nat.le_refl _) _⟩
set_option maxHeartbeats 1000000 in
theorem dcheck_shape (k size seed : Int) (s : ByteArray) (w : World) (h1 : 1 ≤ k ∧ k ≤ 16) (h2 : 1 ≤ size ∧ size ≤ 8) (h3 : 1 ≤ seed ∧ seed ≤ 10000) (h4 : (s.size : Int) ≠ size) :
    Calls Tryd.prog 41 #[.int .i64 k, .int .i64 size, dropV seed s] w fun e w' => e = .returned (.iface 52 (.int .i64 3)) ∧ Below w.heap.size w w' := by
  have W1 := hide (fun w => within_ok k 16 w h1.1 h1.2)
  have W2 := hide (fun w => within_ok size 8 w h2.1 h2.2)
  have W3 := hide (fun w => within_ok seed 10000 w h3.1 h3.2)
  have hne : ((s.size : Int) == size) = false := by simp [h4]
  unfold dropV
  go_enter Tryd.func41, Tryd.ntmps41
  go_wp2_with fail
  refine (W1.out _).mono ?_
  rintro e w1 ⟨rfl, rfl⟩
  go_wp2_with fail
  refine (W2.out _).mono ?_
  rintro e w1 ⟨rfl, rfl⟩
  go_wp2_with fail
  refine (W3.out _).mono ?_
  rintro e w1 ⟨rfl, rfl⟩
  go_wp2
  go_ret
  exact ⟨rfl, (Below.refl _ _).alloc (Nat.le_refl _) _⟩
set_option maxHeartbeats 1000000 in
theorem dcheck_range (k size seed : Int) (s : ByteArray) (w : World) (h : ¬ ((1 ≤ k ∧ k ≤ 16) ∧ (1 ≤ size ∧ size ≤ 8) ∧ 1 ≤ seed ∧ seed ≤ 10000)) :
    Calls Tryd.prog 41 #[.int .i64 k, .int .i64 size, dropV seed s] w fun e w' => e = .returned (.iface 52 (.int .i64 1)) ∧ Below w.heap.size w w' := by
  by_cases h1 : 1 ≤ k ∧ k ≤ 16
  · have W1 := hide (fun w => within_ok k 16 w h1.1 h1.2)
    by_cases h2 : 1 ≤ size ∧ size ≤ 8
    · have W2 := hide (fun w => within_ok size 8 w h2.1 h2.2)
      have W3 := hide (fun w => within_not seed 10000 w (by omega))
      clear h h1 h2
      unfold dropV
      go_enter Tryd.func41, Tryd.ntmps41
      go_wp2_with fail
      refine (W1.out _).mono ?_
      rintro e w1 ⟨rfl, rfl⟩
      go_wp2_with fail
      refine (W2.out _).mono ?_
      rintro e w1 ⟨rfl, rfl⟩
      go_wp2_with fail
      refine (W3.out _).mono ?_
      rintro e w1 ⟨rfl, rfl⟩
      go_wp2
      go_ret
      exact ⟨rfl, (Below.refl _ _).alloc (Nat.le_refl _) _⟩
    · have W2 := hide (fun w => within_not size 8 w (by omega))
      clear h h1 h2
      unfold dropV
      go_enter Tryd.func41, Tryd.ntmps41
      go_wp2_with fail
      refine (W1.out _).mono ?_
      rintro e w1 ⟨rfl, rfl⟩
      go_wp2_with fail
      refine (W2.out _).mono ?_
      rintro e w1 ⟨rfl, rfl⟩
      go_wp2
      go_ret
      exact ⟨rfl, (Below.refl _ _).alloc (Nat.le_refl _) _⟩
  · have W1 := hide (fun w => within_not k 16 w (by omega))
    clear h h1
    unfold dropV
    go_enter Tryd.func41, Tryd.ntmps41
    go_wp2_with fail
    refine (W1.out _).mono ?_
    rintro e w1 ⟨rfl, rfl⟩
    go_wp2
    go_ret
    exact ⟨rfl, (Below.refl _ _).alloc (Nat.le_refl _) _⟩
end Go.Proofs.YtldjbampimbaeaaDoor
