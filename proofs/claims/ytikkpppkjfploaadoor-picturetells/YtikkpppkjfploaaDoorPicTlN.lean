/-
  What picture's and dropref2's functions say of any input, as one; the blocks that PictureTells works over. Lemmas for the laws above; no statement is proved here.
-/
import Derived.Test.YtikkpppkjfploaaDoorRShift
import Derived.Test.YtikkpppkjfploaaDoorPicS
import Derived.Test.YtikkpppkjfploaaDoorPicF
import Derived.Test.YtikkpppkjfploaaDoorPicQ
import Derived.Test.YtikkpppkjfploaaDoorErrIs
namespace Go.Proofs.YtikkpppkjfploaaDoor
open Go.RowKit
set_option linter.unusedVariables false
set_option maxRecDepth 100000

theorem errIs_N (k : Nat) : ErrIs (k : Int) (errN k) := by
  by_cases h : k = 0
  · subst h; exact Or.inl ⟨rfl, rfl⟩
  · exact Or.inr (errN_pos h)

theorem pics_alike {v v2 : Value} {n : Nat} {f g : Nat → Int} {w : World} (a b : Int) (hn : n ≤ 1000000) (h : IntsIn w v n f) (h2 : IntsIn w v2 n g) (e : ∀ i, i < n → f i = g i) :
    Calls Tryd.prog 9 #[.agg #[.int .i64 a, .int .i64 b, v], .agg #[.int .i64 a, .int .i64 b, v2]] w fun e w' => e = .returned (.bool true) ∧ Below w.heap.size w w' := by
  refine (pics_any a b a b hn h h2).mono ?_
  rintro x w' ⟨r, rfl, hr, hb⟩
  rw [hr.2 ⟨rfl, rfl, rfl, e⟩]
  exact ⟨rfl, hb⟩
/-- What a shifted picture is, where it may be and where not. -/
def shX (a b : Int) (n : Nat) (f : Nat → Int) (x y : Int) : Int := if shiftF a b n f x y = 0 then a else 0
def shY (a b : Int) (n : Nat) (f : Nat → Int) (x y : Int) : Int := if shiftF a b n f x y = 0 then b else 0
def shM (a b : Int) (n : Nat) (f : Nat → Int) (x y : Int) : Nat := if shiftF a b n f x y = 0 then n else 0
def shG (a b : Int) (n : Nat) (f : Nat → Int) (x y : Int) : Nat → Int := shiftN a.toNat b.toNat x y f
theorem shM_le (a b : Int) (n : Nat) (f : Nat → Int) (x y : Int) : shM a b n f x y ≤ 36 := by
  unfold shM
  split
  · rename_i h
    obtain ⟨A, B, o⟩ := picF_zero.1 (shiftF_zero.1 h).1
    exact o.le
  · omega
theorem pshift_any {w : World} {s : Value} {n : Nat} {f : Nat → Int} (a b mx my : Int) (h : IntsIn w s n f) :
    Calls Tryd.prog 8 #[.agg #[.int .i64 a, .int .i64 b, s], .agg #[.int .i64 mx, .int .i64 my]] w fun e w' => ∃ v, e = .returned (.tuple #[.agg #[.int .i64 (shX a b n f mx my), .int .i64 (shY a b n f mx my), v], errN (shiftF a b n f mx my)]) ∧ IntsIn w' v (shM a b n f mx my) (shG a b n f mx my) ∧ Below w.heap.size w w' := by
  by_cases hx : shiftF a b n f mx my = 0
  · obtain ⟨A, B, o⟩ := picF_zero.1 (shiftF_zero.1 hx).1
    refine (pshift_ok mx my h o (shiftF_zero.1 hx).2).mono ?_
    rintro e w' ⟨v, rfl, hv, hb⟩
    refine ⟨v, ?_, ?_, hb⟩
    · unfold shX shY; rw [hx, if_pos rfl, if_pos rfl]; rfl
    · unfold shM shG; rw [hx, if_pos rfl, o.wide, o.high]; exact hv
  · refine (pshift_bad a b mx my h hx).mono ?_
    rintro e w' ⟨rfl, hb⟩
    refine ⟨.slice none 0 0, ?_, ?_, hb⟩
    · unfold shX shY; rw [if_neg hx, if_neg hx]
    · unfold shM; rw [if_neg hx]; exact Or.inl ⟨rfl, _, _, rfl⟩
/-- How far two are apart, where they may be held against one another and where not. -/
def unM (a b : Int) (n : Nat) (f : Nat → Int) (a' b' : Int) (n' : Nat) (f' : Nat → Int) : Nat := if twoF a b n f a' b' n' f' = 0 then mostN f f' n else 0
theorem punlike_any {w : World} {s s' : Value} {n n' : Nat} {f f' : Nat → Int} (a b a' b' : Int) (h : IntsIn w s n f) (h' : IntsIn w s' n' f') :
    Calls Tryd.prog 12 #[.agg #[.int .i64 a, .int .i64 b, s], .agg #[.int .i64 a', .int .i64 b', s']] w fun e w' => e = .returned (.tuple #[.int .i64 (unM a b n f a' b' n' f' : Nat), errN (twoF a b n f a' b' n' f')]) ∧ Below w.heap.size w w' := by
  by_cases hx : twoF a b n f a' b' n' f' = 0
  · obtain ⟨hp, hq, ea, eb⟩ := twoF_zero.1 hx
    obtain ⟨A, B, o⟩ := picF_zero.1 hp
    obtain ⟨A', B', o'⟩ := picF_zero.1 hq
    have e1 : A = A' := by have := o.wide; have := o'.wide; omega
    have e2 : B = B' := by have := o.high; have := o'.high; omega
    subst e1
    subst e2
    have en : n = n' := by rw [o'.many, o.many]
    subst en
    refine (punlike_ok h h' o o').mono ?_
    rintro e w' ⟨rfl, hb⟩
    refine ⟨?_, hb⟩
    unfold unM; rw [hx, if_pos rfl]; rfl
  · refine (punlike_bad a b a' b' h h' hx).mono ?_
    rintro e w' ⟨rfl, hb⟩
    refine ⟨?_, hb⟩
    unfold unM; rw [if_neg hx]; rfl

theorem PicIn.put {w : World} {k : Nat} {x y : Int} {s : Value} (h : PicIn w k x y s) (x' y' : Int) (s' : Value) :
    PicIn (((w.setCell ⟨k, 0, none⟩ (.int .i64 x')).setCell ⟨k, 1, none⟩ (.int .i64 y')).setCell ⟨k, 2, none⟩ s') k x' y' s' := by
  obtain ⟨⟨c0, g0⟩, ⟨c1, g1⟩, c2, g2⟩ := h
  have n01 : (⟨k, 0, none⟩ : Addr) ≠ ⟨k, 1, none⟩ := fun e => by cases e
  have n02 : (⟨k, 0, none⟩ : Addr) ≠ ⟨k, 2, none⟩ := fun e => by cases e
  have n12 : (⟨k, 1, none⟩ : Addr) ≠ ⟨k, 2, none⟩ := fun e => by cases e
  refine ⟨⟨?_, by rw [World.frozen?_setCell, World.frozen?_setCell, World.frozen?_setCell]; exact g0⟩, ⟨?_, by rw [World.frozen?_setCell, World.frozen?_setCell, World.frozen?_setCell]; exact g1⟩, ?_, by rw [World.frozen?_setCell, World.frozen?_setCell, World.frozen?_setCell]; exact g2⟩
  · rw [World.cell?_setCell_other _ _ _ _ (by first | exact n02 | exact n02.symm), World.cell?_setCell_other _ _ _ _ (by first | exact n01 | exact n01.symm), World.cell?_setCell_same _ _ _ c0]
  · rw [World.cell?_setCell_other _ _ _ _ (by first | exact n12 | exact n12.symm)]
    have e1 : (w.setCell ⟨k, 0, none⟩ (.int .i64 x')).cell? ⟨k, 1, none⟩ = some (.int .i64 y) := by
      rw [World.cell?_setCell_other _ _ _ _ (by first | exact n01 | exact n01.symm)]; exact c1
    exact World.cell?_setCell_same _ _ _ e1
  · have e2 : ((w.setCell ⟨k, 0, none⟩ (.int .i64 x')).setCell ⟨k, 1, none⟩ (.int .i64 y')).cell? ⟨k, 2, none⟩ = some s := by
      rw [World.cell?_setCell_other _ _ _ _ (by first | exact n12 | exact n12.symm), World.cell?_setCell_other _ _ _ _ (by first | exact n02 | exact n02.symm)]; exact c2
    exact World.cell?_setCell_same _ _ _ e2

/-- The law's arguments as they lie in blocks of their own. -/
structure Tl (w0 w : World) (a b : Int) (s : Value) (a' b' : Int) (s' : Value) (mx my : Int) : Prop where
  p : PicIn w w0.heap.size a b s
  q : PicIn w (w0.heap.size + 1) a' b' s'
  m : MoveIn w (w0.heap.size + 1 + 1) mx my
  b : Below w0.heap.size w0 w
theorem Tl.below {w0 w w' : World} {a b : Int} {s : Value} {a' b' : Int} {s' : Value} {mx my : Int} (h : Tl w0 w a b s a' b' s' mx my) (hb : Below w.heap.size w w') : Tl w0 w' a b s a' b' s' mx my :=
  ⟨h.p.below hb, h.q.below hb, h.m.below hb, below_two h.b hb⟩
theorem Tl.mono {w0 w w' : World} {B : Nat} {a b : Int} {s : Value} {a' b' : Int} {s' : Value} {mx my : Int} (h : Tl w0 w a b s a' b' s' mx my) (hb : Below B w w') (hB : w0.heap.size + 1 + 1 < B) : Tl w0 w' a b s a' b' s' mx my :=
  ⟨h.p.mono hb (by omega), h.q.mono hb (by omega), h.m.mono hb (by omega), h.b.trans (hb.mono (by omega))⟩
theorem Tl.set {w0 w : World} {a b : Int} {s : Value} {a' b' : Int} {s' : Value} {mx my : Int} (h : Tl w0 w a b s a' b' s' mx my) {k : Nat} (hk : w0.heap.size + 1 + 1 < k) (o : Nat) (u : Value) : Tl w0 (w.setCell ⟨k, o, none⟩ u) a b s a' b' s' mx my :=
  ⟨h.p.setOther (by omega) u, h.q.setOther (by omega) u, h.m.setOther (by omega) u, h.b.setCell (by show w0.heap.size ≤ k; omega) u⟩
theorem Tl.cells {w0 w : World} {a b : Int} {s : Value} {a' b' : Int} {s' : Value} {mx my : Int} (h : Tl w0 w a b s a' b' s' mx my) :
    w.cell? ⟨w0.heap.size, 0, none⟩ = some (.int .i64 a) ∧ w.cell? ⟨w0.heap.size, 1, none⟩ = some (.int .i64 b) ∧ w.cell? ⟨w0.heap.size, 2, none⟩ = some s ∧
    w.cell? ⟨w0.heap.size + 1, 0, none⟩ = some (.int .i64 a') ∧ w.cell? ⟨w0.heap.size + 1, 1, none⟩ = some (.int .i64 b') ∧ w.cell? ⟨w0.heap.size + 1, 2, none⟩ = some s' ∧
    w.cell? ⟨w0.heap.size + 1 + 1, 0, none⟩ = some (.int .i64 mx) ∧ w.cell? ⟨w0.heap.size + 1 + 1, 1, none⟩ = some (.int .i64 my) :=
  ⟨h.p.1.1, h.p.2.1.1, h.p.2.2.1, h.q.1.1, h.q.2.1.1, h.q.2.2.1, h.m.1, h.m.2⟩
theorem tl_new (w : World) (a b : Int) (s : Value) (a' b' : Int) (s' : Value) (mx my : Int) :
    Tl w (((w.alloc (.cells #[.int .i64 a, .int .i64 b, s] 24)).alloc (.cells #[.int .i64 a', .int .i64 b', s'] 24)).alloc (.cells #[.int .i64 mx, .int .i64 my] 26)) a b s a' b' s' mx my := by
  obtain ⟨W1, hW1⟩ : ∃ W1, W1 = w.alloc (.cells #[.int .i64 a, .int .i64 b, s] 24) := ⟨_, rfl⟩
  obtain ⟨W2, hW2⟩ : ∃ W2, W2 = W1.alloc (.cells #[.int .i64 a', .int .i64 b', s'] 24) := ⟨_, rfl⟩
  obtain ⟨W4, hW4⟩ : ∃ W4, W4 = W2.alloc (.cells #[.int .i64 mx, .int .i64 my] 26) := ⟨_, rfl⟩
  rw [← hW1, ← hW2, ← hW4]
  have b1 : Below w.heap.size w W1 := hW1 ▸ (Below.refl _ _).alloc (Nat.le_refl _) _
  have b12 : Below W1.heap.size W1 W2 := hW2 ▸ (Below.refl _ _).alloc (Nat.le_refl _) _
  have b24 : Below W2.heap.size W2 W4 := hW4 ▸ (Below.refl _ _).alloc (Nat.le_refl _) _
  have b4 := below_two (below_two b1 b12) b24
  have z1 : W1.heap.size = w.heap.size + 1 := by rw [hW1]; simp
  have z2 : W2.heap.size = w.heap.size + 1 + 1 := by rw [hW2]; simp [z1]
  refine ⟨?_, ?_, ?_, b4⟩
  · exact PicIn.below (hW1 ▸ picIn_new w a b s) (below_two b12 b24)
  · have := picIn_new W1 a' b' s'
    rw [← hW2, z1] at this
    exact this.below b24
  · have := moveIn_new W2 mx my
    rw [← hW4, z2] at this
    exact this

/-- The blocks while a flat picture grows. -/
structure Fl (w0 wr : World) (a b : Int) (s : Value) (a' b' : Int) (s' : Value) (mx my : Int) (kb lb base : Nat) (A B : Int) (v : Value) (j : Nat) (k : Int) (X Y : Int) (vx : Value) : Prop where
  t : Tl w0 wr a b s a' b' s' mx my
  q : PicIn wr kb A B v
  x : PicIn wr lb X Y vx
  own : wr.ownsRow base 3 1 v j ((List.range j).map fun _ : Nat => .int .i64 k)
  big : base ≤ wr.heap.size
  hk : w0.heap.size + 1 + 1 < kb
  kB : kb < base
  lB : lb < base
  ne : lb ≠ kb
theorem Fl.stored {w0 wr w' : World} {a b : Int} {s : Value} {a' b' : Int} {s' : Value} {mx my : Int} {kb lb base : Nat} {A B : Int} {v : Value} {j : Nat} {k X Y : Int} {vx : Value} (h : Fl w0 wr a b s a' b' s' mx my kb lb base A B v j k X Y vx)
    (hb : Below base wr w') {v' : Value} (hown : w'.ownsRow base 3 1 v' (j + 1) ((List.range (j + 1)).map fun _ : Nat => .int .i64 k)) :
    Fl w0 (w'.setCell ⟨kb, 2, none⟩ v') a b s a' b' s' mx my kb lb base A B v' (j + 1) k X Y vx := by
  have h1 := h.hk
  have h2 := h.kB
  exact ⟨(h.t.mono hb (by omega)).set h.hk _ _, (h.q.mono hb h.kB).setPix _, (h.x.mono hb h.lB).setOther h.ne _, ownsRow_setCell_below hown h.kB _, Nat.le_trans h.big (by have := hb.size; simpa [World.setCell] using this), h.hk, h.kB, h.lB, h.ne⟩
end Go.Proofs.YtikkpppkjfploaaDoor
