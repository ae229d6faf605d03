/-
  A range over a function with two loop variables, whose body is told what it is handed: a law of our own over the library's laws of a round and of the statement. Lemmas for the laws above; no statement is proved here.
-/
import Derived.RangeFuncNested
import Derived.RangeFuncBound
import Derived.RangeFuncCalls
import Derived.RangeFuncLeaves
import Derived.RangeFuncBox
import Derived.Shelf.Abstract
import Derived.Shelf.RegionOpen
import Derived.OwnWalkIn
import Derived.TacticsInMore
import Derived.LoopNIn
import Derived.LoopIn
import Derived.Maps.AppendAt
import Derived.Test.YtmmlcomfkikomaaDoorBase
namespace Go.Proofs.YtmmlcomfkikomaaDoor
open Go.RowKit Go.Shelf
set_option linter.unusedVariables false
set_option maxRecDepth 100000

/-- New blocks alone. -/
def Grows (J : Nat → World → Prop) : Prop := ∀ i A B, J i A → A.grownBy B none → J i B
theorem grown_of_below {A B : World} (h : Below A.heap.size A B) : A.grownBy B none := ⟨h.os, h.tape, h.output, h.size, fun k hk _ => h.block k hk⟩
theorem below_of_grown {A B : World} (h : A.grownBy B none) : Below A.heap.size A B := ⟨h.os, h.tape, h.output, h.size, fun k hk => h.block k hk (by simp)⟩

/-- Blocks b and b + 1 lie as they lay. -/
def Same2 (b : Nat) (W W' : World) : Prop := W.heap.size ≤ W'.heap.size ∧ ∀ k, (k = b ∨ k = b + 1) → W'.heap[k]? = W.heap[k]?
theorem Same2.refl (b : Nat) (W : World) : Same2 b W W := ⟨Nat.le_refl _, fun _ _ => rfl⟩
theorem Same2.trans {b : Nat} {X Y Z : World} (h : Same2 b X Y) (k : Same2 b Y Z) : Same2 b X Z := ⟨Nat.le_trans h.1 k.1, fun i hi => (k.2 i hi).trans (h.2 i hi)⟩
theorem Same2.grown {b : Nat} {X Y : World} {row : Option Nat} (hb : b + 1 < X.heap.size) (h : X.grownBy Y row) (hr : ∀ r, row = some r → r ≠ b ∧ r ≠ b + 1) : Same2 b X Y :=
  ⟨h.size, fun k hk => h.block k (by omega) (fun e => by have := hr k e.symm; omega)⟩
theorem Same2.cell {b k : Nat} {W W' : World} (h : Same2 b W W') (hk : k = b ∨ k = b + 1) : W'.cell? ⟨k, 0, none⟩ = W.cell? ⟨k, 0, none⟩ := World.cell?_of_block (h.2 k hk)

/-- A function to be ranged over: G rounds; what round i is handed is told by Gd. -/
def Iter (gf : Nat) (lb : Array Value) (Gd : Nat → Value → Value → World → Prop) (G b : Nat) (w : World) : Prop :=
  ∀ (l : Nat) (J Jx : Nat → World → Prop) (W : World), Below w.heap.size w W → Grows J → Grows Jx →
    (∀ i x y W1, i < G → J i W1 → Gd i x y W1 → YieldAt Fence.wide 8 Tryd.prog l #[x, y] W1 fun e W' =>
      (e = .returned (.bool true) ∧ J (i + 1) W' ∧ Same2 b W1 W') ∨ (e = .returned (.bool false) ∧ Jx i W')) →
    J 0 W →
    CallsIn Fence.wide 9 Tryd.prog gf (#[.func (.yield l) #[] #[]] ++ lb) W fun e W' => (∃ v, e = .returned v) ∧ (J G W' ∨ ∃ i, i < G ∧ Jx i W')

/-- How round i may be left. -/
def leftN (B b : Nat) (I : Nat → World → Prop) (Ix : Code → Nat → World → Prop) (i : Nat) (W : World) : Exit → Act → World → Prop
  | .normal, _, W' => KeepsFrom B W W' ∧ Same2 b W W' ∧ I (i + 1) W'
  | .ret, _, W' => KeepsFrom B W W' ∧ Ix .ret i W'
  | _, _, _ => False

theorem range_two {g : Operand} {p1 p2 : Tmp} {assign body : Code} {Q : Exit → Act → World → Prop} {a : Act} {w : World} {gf : Nat} {lb : Array Value}
    (hg : a.eval g = .func (.func gf) #[] lb) (eg : ∀ args w, (callFunc gf args).run Tryd.prog w = .ok (.enter gf args) w)
    {Gd : Nat → Value → Value → World → Prop} {G b : Nat} (hseq : Iter gf lb Gd G b w) (hb0 : b + 1 < w.heap.size)
    (I : Nat → World → Prop) (Ix : Code → Nat → World → Prop) (hI : OwnFrom w.heap.size I) (hIx : ∀ c, OwnFrom w.heap.size (Ix c))
    (hGd : ∀ x y, OwnFrom w.heap.size (fun i W => Gd i x y W)) (h0 : I 0 w) (A1 : Array Value → Value → Value → Array Value)
    (hassign : ∀ (l : Nat) (i : Nat) (x y : Value) (W : World) (K : Act → World → Prop), Gd i x y W → K { tmps := A1 a.tmps x y, defers := [] } W →
      assign.wpIn (Fence.wide.inRound l) 8 Tryd.prog (Exit.then K (fun _ _ _ => False)) { tmps := (a.tmps.setIfInBounds p1 x).setIfInBounds p2 y, defers := [] } W)
    (hbody : ∀ (l : Nat) (i : Nat) (x y : Value) (W : World), i < G → I i W → Gd i x y W → body.wpIn (Fence.wide.inRound l) 8 Tryd.prog (leftN w.heap.size b I Ix i W) { tmps := A1 a.tmps x y, defers := [] } W)
    (hdone : ∀ (D : Nat) (W : World), w.heap.size ≤ D → I G W → W.heap[D]? = some (.deferred (some [])) → Q .normal { a with defers := { target := .collected D, args := #[] } :: a.defers } W)
    (hstop : ∀ (D : Nat) (i : Nat) (W : World), w.heap.size ≤ D → i < G → Ix .ret i W → W.heap[D]? = some (.deferred (some [])) → Q .ret { a with defers := { target := .collected D, args := #[] } :: a.defers } W) :
    (Code.rangeFunc g #[p1, p2] assign body).wp Tryd.prog Q a w := by
  refine (wpIn_wide (n := 10)).1 (wpIn_rangeFunc fun fn hfn => ?_)
  obtain ⟨D, hD⟩ : ∃ D, D = w.heap.size := ⟨_, rfl⟩
  obtain ⟨L, hL⟩ : ∃ L : LoopState → Option Code → Loop, L = fun st pe => { state := st, pending := pe, fn, tmps := a.tmps, params := #[p1, p2], assign, body, defers := D } := ⟨_, rfl⟩
  -- the two blocks of book-keeping, as they lie
  let At : LoopState → Option Code → World → Prop := fun st pe W => W.heap[D + 1]? = some (.loop (L st pe)) ∧ W.heap[D]? = some (.deferred (some []))
  have turn : ∀ {st pe st' pe'} {W : World}, At st pe W → At st' pe' (W.putObj (D + 1) (.loop (L st' pe'))) := fun h =>
    ⟨World.putObj_heap_same (Array.getElem?_eq_some_iff.1 h.1).1, (World.putObj_heap_other (by omega)).trans h.2⟩
  have stays : ∀ {st pe} {A B : World}, At st pe A → KeepsFrom w.heap.size A B → At st pe B := fun h k => ⟨k.same _ _ (by omega) h.1 rfl, k.same _ _ (by omega) h.2 rfl⟩
  have grows : ∀ {st pe} {A B : World}, At st pe A → A.grownBy B none → At st pe B := fun h k => stays h (KeepsFrom.of_grownBy k (fun j e => by cases e))
  have put : ∀ {st pe} {β : Type} {I' : β → World → Prop} {s : β} {W : World}, OwnFrom w.heap.size I' → At st pe W → I' s W → ∀ o, I' s (W.putObj (D + 1) o) := fun hI' h hs o => hI'.putObj o hs (by omega) h.1 rfl
  have bel : ∀ {st pe} {W : World}, At st pe W → ∀ o, Same2 b W (W.putObj (D + 1) o) := fun h o => ⟨by simp, fun k hk => World.putObj_heap_other (by omega)⟩
  have hst : At .ready none ((w.alloc (.deferred (some []))).alloc (.loop (L .ready none))) := by
    constructor
    · have := World.alloc_heap_new (w.alloc (.deferred (some []))) (.loop (L .ready none)); rwa [World.size_alloc, ← hD] at this
    · rw [hD]; exact (Below.heap_alloc _ _ _ (by simp)).trans (World.alloc_heap_new w _)
  have hal : Below w.heap.size w ((w.alloc (.deferred (some []))).alloc (.loop (L .ready none))) := ((Below.refl _ w).alloc (Nat.le_refl _) _).alloc (by simp) _
  have h00 : I 0 ((w.alloc (.deferred (some []))).alloc (.loop (L .ready none))) := hI.alloc _ (hI.alloc _ h0)
  have hen : (Instr.enterLoop fn a.tmps #[p1, p2] assign body Fence.wide.round).run Tryd.prog w = .ok (D + 1, [{ target := .collected D, args := #[] }]) ((w.alloc (.deferred (some []))).alloc (.loop (L .ready none))) := by
    rw [hL, hD]; exact run_enterLoop_outer _ _ _ _ _
  generalize (w.alloc (.deferred (some []))).alloc (.loop (L .ready none)) = W1 at *
  refine ⟨D + 1, [{ target := .collected D, args := #[] }], W1, { target := .fn (.func gf) lb, args := #[.func (.yield (D + 1)) #[] #[]] }, W1, gf, #[.func (.yield (D + 1)) #[] #[]] ++ lb, W1,
    hen, ?_, (fun _ _ => trivial), ?_, (fun h => by cases h), ?_⟩
  · simp only [resolve, hg]; simp [go_sem]
  · simp [invoke, go_sem, eg]
  refine (hseq (D + 1) (fun i W => I i W ∧ At .ready none W) (fun i W => Ix .ret i W ∧ At .done (some .ret) W) _ hal
    (fun i A B h k => ⟨hI i A B none h.1 k (fun r e => by cases e), grows h.2 k⟩) (fun i A B h k => ⟨hIx _ i A B none h.1 k (fun r e => by cases e), grows h.2 k⟩) ?_ ⟨h00, hst⟩).mono ?_
  · rintro i x y W hi ⟨hi1, hat⟩ hgd
    have hy := run_yield (P := Tryd.prog) (args := #[x, y]) hat.1 (by rw [hL]; rfl)
    have e2 : (L .ready none).fn = fn ∧ (L .ready none).assign = assign ∧ (L .ready none).body = body ∧ (L .ready none).params = #[p1, p2] ∧ (L .ready none).tmps = a.tmps ∧ (L .ready none).state = .ready := by rw [hL]; exact ⟨rfl, rfl, rfl, rfl, rfl, rfl⟩
    rw [e2.1, e2.2.1, e2.2.2.1, e2.2.2.2.1, e2.2.2.2.2.1] at hy
    refine ⟨fn, _, assign, body, hy, roundIn_of_wpIn trivial ?_⟩
    have e3 : ((#[p1, p2] : Array Tmp).zip #[x, y]).foldl (fun tmps (t, a) => tmps.setIfInBounds t a) a.tmps = (a.tmps.setIfInBounds p1 x).setIfInBounds p2 y := by simp
    rw [e3]
    refine hassign _ i x y W _ hgd ⟨_, run_beginRound hat.1 e2.2.2.2.2.2, ?_⟩
    have e4 : { L .ready none with state := .busy } = L .busy none := by rw [hL]
    rw [e4]
    have hb2 : At .busy none (W.putObj (D + 1) (.loop (L .busy none))) := turn hat
    refine wpIn_mono (hbody _ i x y _ hi (put hI hat hi1 _) (put (hGd x y) hat hgd _)) ?_
    have fin : ∀ (jump : Option Code) (W3 : World), KeepsFrom w.heap.size (W.putObj (D + 1) (.loop (L .busy none))) W3 →
        (Instr.endRound (D + 1) jump).run Tryd.prog W3 = .ok (.bool jump.isNone) (W3.putObj (D + 1) (.loop (L (if jump.isNone then .ready else .done) jump))) ∧ At .busy none W3 := fun jump W3 k => by
      have h3 := stays hb2 k
      refine ⟨?_, h3⟩
      rw [run_endRound jump h3.1, hL]
    rintro e a3 W3 hp
    cases e with
    | normal =>
      obtain ⟨hk, hb, hi3⟩ := hp
      obtain ⟨hr, h3⟩ := fin none W3 hk
      exact ⟨_, _, hr, .inl ⟨rfl, ⟨put hI h3 hi3 _, turn h3⟩, ((bel hat _).trans hb).trans (bel h3 _)⟩⟩
    | ret =>
      obtain ⟨hk, hi3⟩ := hp
      obtain ⟨hr, h3⟩ := fin (some .ret) W3 hk
      exact ⟨_, _, hr, .inr ⟨rfl, put (hIx _) h3 hi3 _, turn h3⟩⟩
    | exit id => exact hp.elim
    | goto t => exact hp.elim
    | panic ch => exact hp.elim
    | outgrown => exact hp.elim
  · rintro e W2 ⟨⟨v, rfl⟩, ⟨hi, hat⟩ | ⟨i, hi, hix, hat⟩⟩
    · have hr := run_endLoop (P := Tryd.prog) hat.1 (by rw [hL]; simp)
      have ep : (L .ready none).pending = none := by rw [hL]
      rw [ep] at hr
      exact ⟨none, _, hr, hdone D _ (by omega) (put hI hat hi _) ((World.putObj_heap_other (by omega)).trans hat.2)⟩
    · have hr := run_endLoop (P := Tryd.prog) hat.1 (by rw [hL]; simp)
      have ep : (L .done (some .ret)).pending = some .ret := by rw [hL]
      rw [ep] at hr
      exact ⟨some .ret, _, hr, wpIn_wide.2 (wp_ret (hstop D i _ (by omega) hi (put (hIx _) hat hix _) ((World.putObj_heap_other (by omega)).trans hat.2)))⟩
end Go.Proofs.YtmmlcomfkikomaaDoor
