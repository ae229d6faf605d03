/-
  Lemmas for the law above, joined into one text (Own, InOwn0, RcV, U8, BmR, PicB, PicX). No statement is proved here.
-/
import Derived.Test.YtjhflcgphejddaaGreatDoorZG0
import Derived.Deep.AppendLies
import Derived.Deep.OwnRows
import Derived.Test.YtjhflcgphejddaaGreatDoorZG2
import Derived.Laws.OwnMore
import Derived.Lib.SmallJoins
namespace Go.Proofs.YtjhflcgphejddaaGreatDoor
open Go.RowKit
set_option linter.unusedVariables false
set_option maxRecDepth 100000

/-- Two slices whose rows are two. -/
def Apart (a b : Value) : Prop := a.ownBlock = none ∨ b.ownBlock = none ∨ a.ownBlock ≠ b.ownBlock
theorem Apart.symm {a b : Value} (h : Apart a b) : Apart b a := by
  rcases h with h | h | h
  · exact Or.inr (Or.inl h)
  · exact Or.inl h
  · exact Or.inr (Or.inr (fun e => h e.symm))
theorem Apart.kept {a b : Value} (h : Apart a b) : b.ownBlock = none ∨ b.ownBlock ≠ a.ownBlock := by
  rcases h with h | h | h
  · rw [h]; cases b.ownBlock with
    | none => exact Or.inl rfl
    | some k => exact Or.inr (by simp)
  · exact Or.inl h
  · exact Or.inr (fun e => h e.symm)
theorem apart_new {w : World} {B : Nat} {e : TypeId} {a b : Value} {m g n c H : Nat} {xs : List Value} (hb : w.ownsRow B e 1 b m xs) (h : Apart a b) (hH : w.heap.size ≤ H) (hat : a.ownBlock = some g ∨ g = H) : Apart (.slice (some ⟨g, 0, none⟩) n c) b := by
  rcases hat with hat | rfl
  · rcases h with h | h | h
    · rw [h] at hat; cases hat
    · exact Or.inr (Or.inl h)
    · exact Or.inr (Or.inr (fun e => h (by rw [hat, ← e]; rfl)))
  · refine Or.inr (Or.inr (fun e => ?_))
    have := (hb.lt g e.symm).2
    omega

theorem Tryz.infoInt : (Tryz.prog.info? 3).map (fun i => (i.zero, i.size, i.bytes)) = some (some (.int .i64 0), 1, 8) := by kernel_rfl
/-- Ints that the call owns, opened. -/
theorem own_ints {w : World} {B : Nat} {v : Value} {n : Nat} {f : Nat → Int} (h : w.ownsRow B 3 1 v n ((List.range n).map fun k : Nat => .int .i64 (f k))) (hn : 0 < n) :
    ∃ g cap, v = .slice (some ⟨g, 0, none⟩) n cap ∧ n ≤ cap ∧ cap ≤ maxLen ∧ ∀ k, k < n → w.cell? ⟨g, 0 + k, none⟩ = some (.int .i64 (f k)) := by
  have h' := h
  rcases h.2 with ⟨_, h0⟩ | ⟨g, cap, cur, hv, _, hg, h1, h2, hcs, hcur⟩
  · omega
  · refine ⟨g, cap, hv, h1, h2, fun k hk => ?_⟩
    rw [hv] at h'
    rw [Nat.zero_add, h'.cellAt k (by omega)]
    simp [hk]
end Go.Proofs.YtjhflcgphejddaaGreatDoor

namespace Go.Proofs.YtjhflcgphejddaaGreatDoor
open Go.RowKit
set_option linter.unusedVariables false
set_option maxRecDepth 100000

/-- Ints that the call owns, as a slice of numbers. -/
theorem own_in {w : World} {B : Nat} {v : Value} {n : Nat} {f : Nat → Int} (h : w.ownsRow B 3 1 v n ((List.range n).map fun k : Nat => .int .i64 (f k))) : IntsIn w v n f := by
  rcases Nat.eq_zero_or_pos n with rfl | h0
  · rcases h.2 with ⟨hv, _⟩ | ⟨g, cap, cur, hv, _⟩
    · exact Or.inl ⟨rfl, _, _, hv⟩
    · exact Or.inl ⟨rfl, _, _, hv⟩
  · obtain ⟨g, cap, hv, _, _, hc⟩ := own_ints h h0
    exact Or.inr ⟨h0, g, 0, cap, hv, hc⟩
end Go.Proofs.YtjhflcgphejddaaGreatDoor

namespace Go.Proofs.YtjhflcgphejddaaGreatDoor
open Go.RowKit
set_option linter.unusedVariables false
set_option maxRecDepth 100000

/-- Numbers as a row holds them. -/
def encI (l : List Int) : List Value := l.map fun b => .int .i64 b
theorem encI_nil : encI [] = [] := rfl
theorem encI_snoc (l : List Int) (b : Int) : encI (l ++ [b]) = encI l ++ [.int .i64 b] := by simp [encI]
theorem encI_len (l : List Int) : (encI l).length = l.length := by simp [encI]
theorem encI_range (l : List Int) : encI l = (List.range l.length).map fun k : Nat => .int .i64 (l.getD k 0) := by
  apply List.ext_getElem
  · simp [encI]
  · intro i h1 h2
    simp [encI] at h1 ⊢
    simp [h1]
theorem rowV_in {w : World} {B n : Nat} {v : Value} {l : List Int} (h : w.ownsRow B 3 1 v n (encI l)) (hn : n = l.length) : IntsIn w v n (fun k => l.getD k 0) := by
  rw [encI_range] at h
  subst hn
  exact own_in h
theorem rowV_slice {w : World} {B n : Nat} {v : Value} {xs : List Value} (h : w.ownsRow B 3 1 v n xs) : ∃ a cap, v = .slice a n cap := by
  rcases h.2 with ⟨hv, h0⟩ | ⟨g, cap, cur, hv, _⟩
  · exact ⟨none, 0, by rw [h0]; exact hv⟩
  · exact ⟨_, cap, hv⟩
end Go.Proofs.YtjhflcgphejddaaGreatDoor

namespace Go.Proofs.YtjhflcgphejddaaGreatDoor
open Go.RowKit
set_option linter.unusedVariables false
set_option maxRecDepth 100000

theorem Tryz.infoU8 : (Tryz.prog.info? 5).map (fun i => (i.zero, i.size, i.bytes)) = some (some (.int .u8 0), 1, 1) := by kernel_rfl
end Go.Proofs.YtjhflcgphejddaaGreatDoor

namespace Go.Proofs.YtjhflcgphejddaaGreatDoor
open Go.RowKit
set_option linter.unusedVariables false
set_option maxRecDepth 100000

/-- Some bytes as values. -/
def encU (n : Nat) (f : Nat → UInt8) : List Value := (List.range n).map fun i => .int .u8 ((f i).toNat : Int)
theorem encU_snoc (n : Nat) (f : Nat → UInt8) : encU (n + 1) f = encU n f ++ [.int .u8 ((f n).toNat : Int)] := by simp [encU, List.range_succ]
theorem encU_len (n : Nat) (f : Nat → UInt8) : (encU n f).length = n := by simp [encU]
theorem encU_row {w : World} {B n cap g : Nat} {f : Nat → UInt8} (h : w.ownsRow B 5 1 (.slice (some ⟨g, 0, none⟩) n cap) n (encU n f)) : BRow w g n f := fun i hi => by
  refine ⟨?_, h.frozenAt i⟩
  rw [h.cellAt i (by omega)]
  simp [encU, hi]
/-- A literal of some cells is a row that is owned. -/
theorem own_lit (w : World) {B : Nat} {e : TypeId} (cur : Array Value) (hB : B ≤ w.heap.size) (hm : cur.size ≤ maxLen) : (w.alloc (.cells cur e)).ownsRow B e 1 (.slice (some ⟨w.heap.size, 0, none⟩) cur.size cur.size) cur.size cur.toList := by
  refine ⟨by simp, .inr ⟨w.heap.size, cur.size, cur, rfl, hB, heap_alloc_new w _, Nat.le_refl _, hm, by omega, ?_⟩⟩
  rw [Nat.mul_one, List.take_of_length_le (by simp)]
end Go.Proofs.YtjhflcgphejddaaGreatDoor

namespace Go.Proofs.YtjhflcgphejddaaGreatDoor
open Go.RowKit
set_option linter.unusedVariables false
set_option maxRecDepth 100000

/-- A block that holds a Picture, none of it frozen. -/
def PicIn (w : World) (b : Nat) (x y : Int) (s : Value) : Prop :=
  (w.cell? ⟨b, 0, none⟩ = some (.int .i64 x) ∧ w.frozen? ⟨b, 0, none⟩ = false) ∧ (w.cell? ⟨b, 1, none⟩ = some (.int .i64 y) ∧ w.frozen? ⟨b, 1, none⟩ = false) ∧ w.cell? ⟨b, 2, none⟩ = some s ∧ w.frozen? ⟨b, 2, none⟩ = false
theorem picIn_new (w : World) (x y : Int) (s : Value) : PicIn (w.alloc (.cells #[.int .i64 x, .int .i64 y, s] 33)) w.heap.size x y s :=
  ⟨⟨by simp, by simp only [World.frozen?, (MapKept.heap_alloc w _).1]; simp⟩, ⟨by simp, by simp only [World.frozen?, (MapKept.heap_alloc w _).1]; simp⟩, by simp, by simp only [World.frozen?, (MapKept.heap_alloc w _).1]; simp⟩
theorem PicIn.lt {w : World} {b : Nat} {x y : Int} {s : Value} (h : PicIn w b x y s) : b < w.heap.size := cell_lt h.1.1
theorem PicIn.below {w w' : World} {b : Nat} {x y : Int} {s : Value} (h : PicIn w b x y s) (hb : Below w.heap.size w w') : PicIn w' b x y s :=
  ⟨⟨(hb.cell h.lt).trans h.1.1, (hb.frozen h.lt).trans h.1.2⟩, ⟨(hb.cell h.lt).trans h.2.1.1, (hb.frozen h.lt).trans h.2.1.2⟩, (hb.cell h.lt).trans h.2.2.1, (hb.frozen h.lt).trans h.2.2.2⟩
end Go.Proofs.YtjhflcgphejddaaGreatDoor

namespace Go.Proofs.YtjhflcgphejddaaGreatDoor
open Go.RowKit
set_option linter.unusedVariables false
set_option maxRecDepth 100000

theorem PicIn.mono {w w' : World} {B b : Nat} {x y : Int} {s : Value} (h : PicIn w b x y s) (hb : Below B w w') (hlt : b < B) : PicIn w' b x y s :=
  ⟨⟨(hb.cell hlt).trans h.1.1, (hb.frozen hlt).trans h.1.2⟩, ⟨(hb.cell hlt).trans h.2.1.1, (hb.frozen hlt).trans h.2.1.2⟩, (hb.cell hlt).trans h.2.2.1, (hb.frozen hlt).trans h.2.2.2⟩
theorem PicIn.setOther {w : World} {b b2 o : Nat} {x y : Int} {s : Value} (h : PicIn w b x y s) (hne : b ≠ b2) (u : Value) : PicIn (w.setCell ⟨b2, o, none⟩ u) b x y s := by
  obtain ⟨⟨c0, g0⟩, ⟨c1, g1⟩, c2, g2⟩ := h
  refine ⟨⟨?_, by rw [World.frozen?_setCell]; exact g0⟩, ⟨?_, by rw [World.frozen?_setCell]; exact g1⟩, ?_, by rw [World.frozen?_setCell]; exact g2⟩
  · rw [World.cell?_setCell_other _ _ _ _ (fun e => hne (by cases e; rfl))]; exact c0
  · rw [World.cell?_setCell_other _ _ _ _ (fun e => hne (by cases e; rfl))]; exact c1
  · rw [World.cell?_setCell_other _ _ _ _ (fun e => hne (by cases e; rfl))]; exact c2
theorem PicIn.setPix {w : World} {b : Nat} {x y : Int} {s : Value} (h : PicIn w b x y s) (u : Value) : PicIn (w.setCell ⟨b, 2, none⟩ u) b x y u := by
  obtain ⟨⟨c0, g0⟩, ⟨c1, g1⟩, c2, g2⟩ := h
  refine ⟨⟨?_, by rw [World.frozen?_setCell]; exact g0⟩, ⟨?_, by rw [World.frozen?_setCell]; exact g1⟩, ?_, by rw [World.frozen?_setCell]; exact g2⟩
  · rw [World.cell?_setCell_other _ _ _ _ (fun e => by cases e)]; exact c0
  · rw [World.cell?_setCell_other _ _ _ _ (fun e => by cases e)]; exact c1
  · rw [World.cell?_setCell_same _ _ _ c2]

theorem PicIn.put {w : World} {k : Nat} {x y : Int} {s : Value} (h : PicIn w k x y s) (x' y' : Int) (s' : Value) :
    PicIn (((w.setCell ⟨k, 0, none⟩ (.int .i64 x')).setCell ⟨k, 1, none⟩ (.int .i64 y')).setCell ⟨k, 2, none⟩ s') k x' y' s' := by
  obtain ⟨⟨c0, g0⟩, ⟨c1, g1⟩, c2, g2⟩ := h
  have n01 : (⟨k, 0, none⟩ : Addr) ≠ ⟨k, 1, none⟩ := fun e => by cases e
  have n02 : (⟨k, 0, none⟩ : Addr) ≠ ⟨k, 2, none⟩ := fun e => by cases e
  have n12 : (⟨k, 1, none⟩ : Addr) ≠ ⟨k, 2, none⟩ := fun e => by cases e
  refine ⟨⟨?_, by rw [World.frozen?_setCell, World.frozen?_setCell, World.frozen?_setCell]; exact g0⟩, ⟨?_, by rw [World.frozen?_setCell, World.frozen?_setCell, World.frozen?_setCell]; exact g1⟩, ?_, by rw [World.frozen?_setCell, World.frozen?_setCell, World.frozen?_setCell]; exact g2⟩
  · rw [World.cell?_setCell_other _ _ _ _ (by first | exact n02 | exact n02.symm), World.cell?_setCell_other _ _ _ _ (by first | exact n01 | exact n01.symm), World.cell?_setCell_same _ _ _ c0]
  · rw [World.cell?_setCell_other _ _ _ _ (by first | exact n12 | exact n12.symm)]
    have e1 : (w.setCell ⟨k, 0, none⟩ (.int .i64 x')).cell? ⟨k, 1, none⟩ = some (.int .i64 y) := by
      rw [World.cell?_setCell_other _ _ _ _ (by first | exact n01 | exact n01.symm)]; exact c1
    exact World.cell?_setCell_same _ _ _ e1
  · have e2 : ((w.setCell ⟨k, 0, none⟩ (.int .i64 x')).setCell ⟨k, 1, none⟩ (.int .i64 y')).cell? ⟨k, 2, none⟩ = some s := by
      rw [World.cell?_setCell_other _ _ _ _ (by first | exact n12 | exact n12.symm), World.cell?_setCell_other _ _ _ _ (by first | exact n02 | exact n02.symm)]; exact c2
    exact World.cell?_setCell_same _ _ _ e2

theorem slice_shape {w : World} {v : Value} {n : Nat} {f : Nat → Int} (h : IntsIn w v n f) : ∃ ad cap, v = .slice ad n cap := by
  rcases h with ⟨rfl, a, c, rfl⟩ | ⟨_, b, o, c, rfl, _⟩
  · exact ⟨_, _, rfl⟩
  · exact ⟨_, _, rfl⟩

end Go.Proofs.YtjhflcgphejddaaGreatDoor
