/-
  append onto nil of a slice of numbers that is handed in. Lemmas for the laws above; no statement is proved here.
-/
import Derived.Test.YtakaeikobahaoaaOwn
import Derived.Test.YtakaeikobahaoaaInts
namespace Go.Proofs.Ytakaeikobahaoaa
open Go.RowKit
set_option linter.unusedVariables false
set_option maxRecDepth 100000

theorem wpList_append_nil_empty {P : Program} {w : World} {ops : Array Oper} {rest : List Oper} {o : Oper} {a : Act} {Q : Exit → Act → World → Prop} (hgd : o.guard = none) (s x : Operand) (t : TypeId)
    (ho : o.op = .call { callee := .builtin .append, args := #[s, x], argTypes := #[t, t] })
    (e : TypeId) (i : TypeInfo) (ht : P.underlying t = some (.slice e)) (hi : P.info? e = some i) (ad : Option Addr) (c : Nat)
    (hs : a.eval s = .slice none 0 0) (hx : a.eval x = .slice ad 0 c)
    (h : wpList P ops Q rest (a.put o.dst (.slice none 0 0)) w) : wpList P ops Q (o :: rest) a w := by
  refine wpList_plain hgd fun K hK => ?_
  have hrun : (Builtin.append_ #[t, t] o.type #[.slice none 0 0, .slice ad 0 c]).run P w = .ok (.slice none 0 0) w := by
    cases ad <;> simp [Builtin.append_, run_underlying ht, sizeOf, typeInfo, hi, Builtin.lenOf, Builtin.firstCells, loadCells, loadCellsFrom]
  unfold Oper.wp
  simp [execOp, ho, resolve, invoke, builtin, hs, hx, hrun, Result.andThen]
  exact hK _ _ h

/-- 'append(nil, x...)', whatever slice of numbers x is. -/
theorem wpList_append_ints {w : World} {ops : Array Oper} {rest : List Oper} {o : Oper} {a : Act} {Q : Exit → Act → World → Prop} (hgd : o.guard = none) (s x : Operand)
    (ho : o.op = .call { callee := .builtin .append, args := #[s, x], argTypes := #[22, 22] }) (base : Nat) (hbase : base ≤ w.heap.size)
    (v : Value) (len : Nat) (f : Nat → Int) (hv : IntsAt w v len f) (hlen : len ≤ 1000000) (hs : a.eval s = .slice none 0 0) (hx : a.eval x = v)
    (h : ∀ v' w', w'.ownsRow base 3 1 v' len ((List.range len).map fun k : Nat => .int .i64 (f k)) → w.grownBy w' none → (∀ g, v'.ownBlock = some g → g = w.heap.size) → wpList Try.prog ops Q rest (a.put o.dst v') w') : wpList Try.prog ops Q (o :: rest) a w := by
  obtain ⟨i0, hi0, hz0, hz1, hz2⟩ := info_parts Try.infoInt
  rcases hv with ⟨rfl, ad, cap, rfl⟩ | ⟨h0, b, off, cap, rfl, h1, h2, h3, _⟩
  · exact wpList_append_nil_empty hgd s x 22 ho 3 i0 Try.underlying22 hi0 ad cap hs hx (h _ _ (World.ownsRow_nil _ _ _ _) (World.grownBy.refl _ _) (fun g hg => by cases hg))
  · refine wpList_append_lies _ hgd s x 22 ho base 3 i0 (.int .i64 0) 1 8 Try.underlying22 hi0 hz0 hz1 hz2 rfl (by decide) _ 0 [] hs (World.ownsRow_nil _ _ _ _) ⟨b, off, none⟩ len cap ((List.range len).map fun k : Nat => .int .i64 (f k)) hx (by simp) (fun q u hu => ?_) (fun u hu => by obtain ⟨_, _, rfl⟩ := List.mem_map.1 hu; rfl) h0 (by unfold maxLen; omega) (by omega) hbase _ rfl ?_
    · have hq : q < len := by
        rcases Nat.lt_or_ge q len with h | h
        · exact h
        · rw [List.getElem?_eq_none (by simpa using h)] at hu; cases hu
      have e : u = .int .i64 (f q) := by simpa [hq] using hu.symm
      rw [e, ← h3 q hq]
      by_cases c : q = 0
      · subst c; simp [Addr.add]
      · simp [Addr.add, c]
    · intro g cap' w' hown hgrow hat hlt
      simp only [Nat.zero_add, List.nil_append] at hown ⊢
      refine h _ w' hown hgrow (fun g' hg' => ?_)
      cases hg'
      rcases hat with hat | hat
      · cases hat
      · exact hat
end Go.Proofs.Ytakaeikobahaoaa
