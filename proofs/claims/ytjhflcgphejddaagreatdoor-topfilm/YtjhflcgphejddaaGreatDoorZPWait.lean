/-
  Lemmas for the law above, joined into one text (PWait). No statement is proved here.
-/
import Derived.Test.YtjhflcgphejddaaGreatDoorZPLeft
namespace Go.Proofs.YtjhflcgphejddaaGreatDoor
open Go.RowKit Go.Maps
set_option linter.unusedVariables false
set_option maxRecDepth 100000

/-- One that waits: where its set lies; its drop. -/
structure Wtr where
  g : Nat
  n : Nat
  c : Nat
  d : Drp
/-- Those that wait as a slice holds them. -/
def wC (X : List Wtr) : List Value := X.flatMap fun x => [.slice (some ⟨x.g, 0, none⟩) x.n x.c, .string x.d.2]
theorem wC_snoc (X : List Wtr) (x : Wtr) : wC (X ++ [x]) = wC X ++ [.slice (some ⟨x.g, 0, none⟩) x.n x.c, .string x.d.2] := by simp [wC]
theorem wC_len (X : List Wtr) : (wC X).length = X.length * 2 := by
  induction X with
  | nil => rfl
  | cons x X ih => rw [show wC (x :: X) = [.slice (some ⟨x.g, 0, none⟩) x.n x.c, .string x.d.2] ++ wC X by simp [wC], List.length_append, ih]; simp; omega
def wAt (X : List Wtr) (j : Nat) : Wtr := X.getD j ⟨0, 0, 0, 0, ⟨#[]⟩⟩
theorem wAt_some {X : List Wtr} {j : Nat} (h : j < X.length) : X[j]? = some (wAt X j) := by simp [wAt, List.getD, h]
theorem wAt_mem {X : List Wtr} {j : Nat} (h : j < X.length) : wAt X j ∈ X := List.mem_of_getElem? (wAt_some h)
theorem wC_at : ∀ (X : List Wtr) (j : Nat), j < X.length → (wC X)[j * 2]? = some (.slice (some ⟨(wAt X j).g, 0, none⟩) (wAt X j).n (wAt X j).c) ∧ (wC X)[j * 2 + 1]? = some (.string (wAt X j).d.2)
  | [], j, h => absurd h (Nat.not_lt_zero _)
  | x :: X, 0, _ => by simp [wC, wAt]
  | x :: X, j + 1, h => by
    have ih := wC_at X j (by simpa using h)
    have e : wC (x :: X) = [.slice (some ⟨x.g, 0, none⟩) x.n x.c, .string x.d.2] ++ wC X := by simp [wC]
    have e2 : wAt (x :: X) (j + 1) = wAt X j := by simp [wAt]
    rw [e, e2, show (j + 1) * 2 = 2 + j * 2 by omega, show 2 + j * 2 + 1 = 2 + (j * 2 + 1) by omega]
    rw [List.getElem?_append_right (by simp), List.getElem?_append_right (by simp)]
    simp only [List.length_cons, List.length_nil]
    rw [show 2 + j * 2 - (0 + 1 + 1) = j * 2 by omega, show 2 + (j * 2 + 1) - (0 + 1 + 1) = j * 2 + 1 by omega]
    exact ih
theorem wC_set : ∀ (X : List Wtr) (i : Nat) (x : Wtr), wC (X.set i x) = ((wC X).set (i * 2) (.slice (some ⟨x.g, 0, none⟩) x.n x.c)).set (i * 2 + 1) (.string x.d.2)
  | [], i, x => by simp [wC]
  | y :: X, 0, x => by simp [wC]
  | y :: X, i + 1, x => by
    have ih := wC_set X i x
    have e : ∀ y Y, wC (y :: Y) = .slice (some ⟨y.g, 0, none⟩) y.n y.c :: .string y.d.2 :: wC Y := fun y Y => by simp [wC]
    rw [List.set_cons_succ, e, e, ih, show (i + 1) * 2 = i * 2 + 1 + 1 by omega, show i * 2 + 1 + 1 + 1 = (i * 2 + 1) + 1 + 1 by omega]
    simp only [List.set_cons_succ]
theorem wC_take : ∀ (X : List Wtr) (i : Nat), (wC X).take (i * 2) = wC (X.take i)
  | [], i => by simp [wC]
  | y :: X, 0 => by simp [wC]
  | y :: X, i + 1 => by
    have e : ∀ y Y, wC (y :: Y) = .slice (some ⟨y.g, 0, none⟩) y.n y.c :: .string y.d.2 :: wC Y := fun y Y => by simp [wC]
    rw [List.take_succ_cons, e, e, show (i + 1) * 2 = i * 2 + 1 + 1 by omega]
    simp only [List.take_succ_cons]
    rw [wC_take X i]
theorem Tryz.infoWtr : (Tryz.prog.info? 183).map (fun i => (i.zero, i.size, i.bytes)) = some (some (.agg #[.slice none 0 0, .string ⟨#[]⟩]), 2, 40) := by kernel_rfl
/-- Those that wait, opened. -/
theorem own_wtrs {w : World} {B : Nat} {v : Value} {X : List Wtr} (h : w.ownsRow B 183 2 v X.length (wC X)) :
    ∃ a cap, v = .slice a X.length cap ∧ X.length ≤ cap ∧ cap ≤ maxLen ∧ (0 < X.length → ∃ g, a = some ⟨g, 0, none⟩) ∧ ∀ g, a = some ⟨g, 0, none⟩ → ∀ j, j < X.length → w.cell? ⟨g, j * 2, none⟩ = some (.slice (some ⟨(wAt X j).g, 0, none⟩) (wAt X j).n (wAt X j).c) ∧ w.cell? ⟨g, j * 2 + 1, none⟩ = some (.string (wAt X j).d.2) := by
  have h' := h
  rcases h.2 with ⟨hv, h0⟩ | ⟨g, cap, cur, hv, _, hg, h1, h2, hcs, hcur⟩
  · exact ⟨none, 0, by rw [h0]; exact hv, by omega, by unfold maxLen; omega, fun h => by omega, fun g e => by cases e⟩
  · refine ⟨_, cap, hv, h1, h2, fun _ => ⟨g, rfl⟩, fun g' e j hj => ?_⟩
    cases e
    rw [hv] at h'
    rw [h'.cellAt (j * 2) (by omega), h'.cellAt (j * 2 + 1) (by omega)]
    exact wC_at X j hj

/-- What the two predicates read: the Peeler's place, the blocks that are known, the drops' sets. -/
structure PRead (w : World) (c b kb k : Nat) (kn : Nat → Bool) (B : Nat → ByteArray) (D : DataW Unit) (X : List Wtr) : Prop where
  box : w.cell? ⟨c, 0, none⟩ = some (.pointer (some ⟨b, 0, none⟩))
  kmap : w.cell? ⟨b, 3, none⟩ = some (.map (some kb))
  mkn : MKn w kb k kn B D
  sets : ∀ x ∈ X, Lst w (.slice (some ⟨x.g, 0, none⟩) x.n x.c) (setL k x.d.1) ∧ 1 ≤ x.d.1 ∧ x.d.1 ≤ 10000
theorem PRead.keep {w w' : World} {c b kb k : Nat} {kn : Nat → Bool} {B : Nat → ByteArray} {D : DataW Unit} {X : List Wtr} (h : PRead w c b kb k kn B D X) (hc : w'.heap[c]? = w.heap[c]?) (hb : w'.heap[b]? = w.heap[b]?) (hk : w'.heap[kb]? = w.heap[kb]?) (hs : ∀ x ∈ X, w'.heap[x.g]? = w.heap[x.g]?) : PRead w' c b kb k kn B D X := by
  refine ⟨(World.cell?_of_block (w := w) hc).trans h.box, (World.cell?_of_block (w := w) hb).trans h.kmap, h.mkn.of_block hk, fun x hx => ⟨?_, (h.sets x hx).2⟩⟩
  obtain ⟨g, cap, hv, h1, h2, h3⟩ := (h.sets x hx).1
  have e : x.g = g := by injection hv with e; injection e with e; injection e with e
  subst e
  exact ⟨x.g, cap, hv, h1, h2, fun i hi => (World.cell?_of_block (w := w) (hs x hx)).trans (h3 i hi)⟩
theorem PRead.setLt {w : World} {c b kb k : Nat} {kn : Nat → Bool} {B : Nat → ByteArray} {D : DataW Unit} {X : List Wtr} (h : PRead w c b kb k kn B D X) (hk : 1 ≤ k) (hk2 : k ≤ 16) : ∀ x ∈ X, x.g < w.heap.size := fun x hx => by
  obtain ⟨g, cap, hv, h1, h2, h3⟩ := (h.sets x hx).1
  have e : x.g = g := by injection hv with e; injection e with e; injection e with e
  subst e
  exact cell_lt (h3 0 (setL_len hk hk2 (h.sets x hx).2.1 (h.sets x hx).2.2).1)
theorem PRead.below {w w' : World} {c b kb k : Nat} {kn : Nat → Bool} {B : Nat → ByteArray} {D : DataW Unit} {X : List Wtr} (h : PRead w c b kb k kn B D X) (hk : 1 ≤ k) (hk2 : k ≤ 16) (hb : Below w.heap.size w w') : PRead w' c b kb k kn B D X :=
  h.keep (hb.block _ (cell_lt h.box)) (hb.block _ (cell_lt h.kmap)) (hb.block _ h.mkn.lt) fun x hx => hb.block _ (h.setLt hk hk2 x hx)

/-- How many are left of it. -/
noncomputable def lfn (k : Nat) (kn : Nat → Bool) (x : Wtr) : Nat := (lft (setL k) kn x.d).length

set_option maxHeartbeats 1000000 in
theorem none_ok (c b kb k : Nat) (kn : Nat → Bool) (B : Nat → ByteArray) (D : DataW Unit) (X : List Wtr) (x : Wtr) (w : World) (hk : 1 ≤ k) (hk2 : k ≤ 16) (hp : PRead w c b kb k kn B D X) (hx : x ∈ X) :
    Calls Tryz.prog 148 #[.agg #[.slice (some ⟨x.g, 0, none⟩) x.n x.c, .string x.d.2], .pointer (some ⟨c, 0, none⟩)] w fun e w' => e = .returned (.bool (lfn k kn x == 0)) ∧ Below w.heap.size w w' := by
  have hb0 : Below w.heap.size w (w.alloc (.cells #[.slice (some ⟨x.g, 0, none⟩) x.n x.c, .string x.d.2] 183)) := (Below.refl _ _).alloc (Nat.le_refl _) _
  have hp0 := hp.below hk hk2 hb0
  have hbx := hp0.box
  have L := hide (pleft_ok b kb k x.d.1 kn B D _ x.d.2 _ hk hk2 (hp0.sets x hx).2.1 (hp0.sets x hx).2.2 hp0.kmap hp0.mkn (hp0.sets x hx).1)
  have HB0 := hide hb0
  have hlb : Hid (lfn k kn x ≤ 16) := Nat.le_trans (List.length_filter_le _ _) (Nat.le_trans (setL_len hk hk2 (hp0.sets x hx).2.1 (hp0.sets x hx).2.2).2 hk2)
  clear hp hp0 hb0 hx
  obtain ⟨gx, nx, cx, sx, bx⟩ := x
  unfold lfn at *
  generalize lft (setL k) kn (sx, bx) = l at *
  go_enter Tryz.func148, Tryz.ntmps148
  go_wp2_with fail
  refine (L.out).mono ?_
  rintro e w1 ⟨v1, rfl, ⟨a1, c1, rfl, hq1, hq2, _⟩, hb1, _⟩
  unfold maxLen at hq2
  have hl16 := hlb.out
  have HB1 := hide (below_two HB0.out hb1)
  clear hb1
  go_wp2
  go_ret
  exact ⟨ret_bool (by rw [Bool.eq_iff_iff]; simp <;> omega), HB1.out⟩
set_option maxHeartbeats 1000000 in
theorem one_ok (c b kb k : Nat) (kn : Nat → Bool) (B : Nat → ByteArray) (D : DataW Unit) (X : List Wtr) (x : Wtr) (w : World) (hk : 1 ≤ k) (hk2 : k ≤ 16) (hp : PRead w c b kb k kn B D X) (hx : x ∈ X) :
    Calls Tryz.prog 151 #[.agg #[.slice (some ⟨x.g, 0, none⟩) x.n x.c, .string x.d.2], .pointer (some ⟨c, 0, none⟩)] w fun e w' => e = .returned (.bool (lfn k kn x == 1)) ∧ Below w.heap.size w w' := by
  have hb0 : Below w.heap.size w (w.alloc (.cells #[.slice (some ⟨x.g, 0, none⟩) x.n x.c, .string x.d.2] 183)) := (Below.refl _ _).alloc (Nat.le_refl _) _
  have hp0 := hp.below hk hk2 hb0
  have hbx := hp0.box
  have L := hide (pleft_ok b kb k x.d.1 kn B D _ x.d.2 _ hk hk2 (hp0.sets x hx).2.1 (hp0.sets x hx).2.2 hp0.kmap hp0.mkn (hp0.sets x hx).1)
  have HB0 := hide hb0
  have hlb : Hid (lfn k kn x ≤ 16) := Nat.le_trans (List.length_filter_le _ _) (Nat.le_trans (setL_len hk hk2 (hp0.sets x hx).2.1 (hp0.sets x hx).2.2).2 hk2)
  clear hp hp0 hb0 hx
  obtain ⟨gx, nx, cx, sx, bx⟩ := x
  unfold lfn at *
  generalize lft (setL k) kn (sx, bx) = l at *
  go_enter Tryz.func151, Tryz.ntmps151
  go_wp2_with fail
  refine (L.out).mono ?_
  rintro e w1 ⟨v1, rfl, ⟨a1, c1, rfl, hq1, hq2, _⟩, hb1, _⟩
  unfold maxLen at hq2
  have hl16 := hlb.out
  have HB1 := hide (below_two HB0.out hb1)
  clear hb1
  go_wp2
  go_ret
  exact ⟨ret_bool (by rw [Bool.eq_iff_iff]; simp <;> omega), HB1.out⟩
end Go.Proofs.YtjhflcgphejddaaGreatDoor
