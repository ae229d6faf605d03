/-
  A map of numbers to nothing that stands for a list of numbers: made, stored into, asked, counted. Lemmas for the laws above; no statement is proved here.
-/
import Derived.Test.YtkbnoebhckngaaaDoorBase
import Derived.Maps.OwnSet
namespace Go.Proofs.YtkbnoebhckngaaaDoor
open Go.RowKit Go.Maps
set_option linter.unusedVariables false
set_option maxRecDepth 100000

theorem Tryd.lawInt : Keyed Tryd.prog 3 := int_keyed Tryd.underlying3
theorem Tryd.zeroUnit (w : World) : (zeroValue 100).run Tryd.prog w = .ok (.agg #[]) w := by kernel_rfl
theorem run_makeMap_some {P : Program} {t k e : TypeId} (ht : P.underlying t = some (.map k e)) (q : IntKind) (n : Int) (w : World) : (Instr.makeMap t (some (.int q n))).run P w = .ok (.map (some w.heap.size)) (w.alloc (.map #[] 0)) := by
  simp [Instr.makeMap, run_underlying ht, asInt, asIntOf, Result.andThen]
theorem tight {P : Program} {t : TypeId} {w : World} {b n : Nat} {D : DataW Unit} (h : w.ownsMap P t unitElem b n D) : w.ownsMap P t unitElem b (Maps.size D) D := by
  obtain ⟨es, clock, hb, F, hs, rfl⟩ := h
  exact ⟨es, clock, hb, F, by simp [Maps.size, length_sorted], rfl⟩

/-- The map of block b holds just the numbers of the list l, each once, as the datum D. -/
def MSet (w : World) (b : Nat) (l : List Nat) (D : DataW Unit) : Prop :=
  w.ownsMap Tryd.prog 3 unitElem b l.length D ∧ Maps.size D = l.length ∧ ∀ r : Nat, Maps.has D (.int .i64 r) = decide (r ∈ l)
theorem mset_made (w : World) : MSet (w.alloc (.map #[] 0)) w.heap.size [] (.map []) := ⟨World.ownsMap_made _ _ _ _, rfl, fun r => by simp [Maps.has]⟩
theorem MSet.put {w w' : World} {b : Nat} {l l' : List Nat} {D : DataW Unit} {r : Nat} (h : MSet w b l D) (h' : w'.ownsMap Tryd.prog 3 unitElem b (l.length + 1) (D.put (.int .i64 r) (.agg [])))
    (hm : ∀ a, a ∈ l' ↔ a = r ∨ a ∈ l) (hl : l'.length = if r ∈ l then l.length else l.length + 1) : MSet w' b l' (D.put (.int .i64 r) (.agg [])) := by
  obtain ⟨ho, hs, hh⟩ := h
  have hz : Maps.size (D.put (.int .i64 r) (.agg [])) = l'.length := by
    rw [Maps.size_put (ho.tidy Tryd.lawInt), hh r, hs, hl]
    by_cases c : r ∈ l <;> simp [c]
  refine ⟨hz ▸ tight h', hz, fun a => ?_⟩
  by_cases c : a = r
  · subst c
    rw [Maps.has_put_same (k := .int .i64 (a : Int)) ho.isMap trivial]
    exact (decide_eq_true ((hm a).2 (Or.inl rfl))).symm
  · rw [Maps.has_put_other (fun e => c (by injection e with _ e; omega)), hh a]
    exact decide_eq_decide.2 ⟨fun h => (hm a).2 (Or.inr h), fun h => ((hm a).1 h).resolve_left c⟩
theorem MSet.kept {w w' : World} {b : Nat} {l : List Nat} {D : DataW Unit} (h : MSet w b l D) {row : Option Nat} (hg : w.grownBy w' row) (hne : some b ≠ row) : MSet w' b l D := ⟨h.1.kept hg hne, h.2⟩
theorem MSet.alloc {w : World} {b : Nat} {l : List Nat} {D : DataW Unit} (h : MSet w b l D) (o : Obj) : MSet (w.alloc o) b l D := ⟨h.1.alloc o, h.2⟩
theorem MSet.congr {w : World} {b : Nat} {l l' : List Nat} {D : DataW Unit} (h : MSet w b l D) (e : l = l') : MSet w b l' D := e ▸ h
end Go.Proofs.YtkbnoebhckngaaaDoor
