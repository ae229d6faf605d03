/-
  Lemmas for the law above, joined into one text (AppN, NdFillN). No statement is proved here.
-/
import Derived.Test.YtakaeikobahaoaaDoorTG3
import Derived.Test.YtakaeikobahaoaaDoorTG9
import Derived.Test.YtakaeikobahaoaaDoorTG10
namespace Go.Proofs.YtakaeikobahaoaaDoor
open Go.RowKit
set_option linter.unusedVariables false
set_option maxRecDepth 100000

theorem wpList_append_nil_empty {P : Program} {w : World} {ops : Array Oper} {rest : List Oper} {o : Oper} {a : Act} {Q : Exit → Act → World → Prop} (hgd : o.guard = none) (s x : Operand) (t : TypeId)
    (ho : o.op = .call { callee := .builtin .append, args := #[s, x], argTypes := #[t, t] })
    (e : TypeId) (i : TypeInfo) (ht : P.underlying t = some (.slice e)) (hi : P.info? e = some i) (ad : Option Addr) (c : Nat)
    (hs : a.eval s = .slice none 0 0) (hx : a.eval x = .slice ad 0 c)
    (h : wpList P ops Q rest (a.put o.dst (.slice none 0 0)) w) : wpList P ops Q (o :: rest) a w := by
  refine wpList_plain hgd fun K hK => ?_
  have hrun : (Builtin.append_ #[t, t] o.type #[.slice none 0 0, .slice ad 0 c]).run P w = .ok (.slice none 0 0) w := by
    cases ad <;> simp [Builtin.append_, run_underlying ht, sizeOf, typeInfo, hi, Builtin.lenOf, Builtin.firstCells, loadCells, loadCellsFrom]
  unfold Oper.wp
  simp [execOp, ho, resolve, invoke, builtin, hs, hx, hrun, Result.andThen]
  exact hK _ _ h

/-- 'append(nil, x...)', whatever slice of numbers x is. -/
theorem wpList_append_ints {w : World} {ops : Array Oper} {rest : List Oper} {o : Oper} {a : Act} {Q : Exit → Act → World → Prop} (hgd : o.guard = none) (s x : Operand)
    (ho : o.op = .call { callee := .builtin .append, args := #[s, x], argTypes := #[22, 22] }) (base : Nat) (hbase : base ≤ w.heap.size)
    (v : Value) (len : Nat) (f : Nat → Int) (hv : IntsAt w v len f) (hlen : len ≤ 1000000) (hs : a.eval s = .slice none 0 0) (hx : a.eval x = v)
    (h : ∀ v' w', w'.ownsRow base 3 1 v' len ((List.range len).map fun k : Nat => .int .i64 (f k)) → w.grownBy w' none → (∀ g, v'.ownBlock = some g → g = w.heap.size) → wpList Tryd.prog ops Q rest (a.put o.dst v') w') : wpList Tryd.prog ops Q (o :: rest) a w := by
  obtain ⟨i0, hi0, hz0, hz1, hz2⟩ := info_parts Tryd.infoInt
  rcases hv with ⟨rfl, ad, cap, rfl⟩ | ⟨h0, b, off, cap, rfl, h1, h2, h3, _⟩
  · exact wpList_append_nil_empty hgd s x 22 ho 3 i0 Tryd.underlying22 hi0 ad cap hs hx (h _ _ (World.ownsRow_nil _ _ _ _) (World.grownBy.refl _ _) (fun g hg => by cases hg))
  · refine wpList_append_lies _ hgd s x 22 ho base 3 i0 (.int .i64 0) 1 8 Tryd.underlying22 hi0 hz0 hz1 hz2 rfl (by decide) _ 0 [] hs (World.ownsRow_nil _ _ _ _) ⟨b, off, none⟩ len cap ((List.range len).map fun k : Nat => .int .i64 (f k)) hx (by simp) (fun q u hu => ?_) (fun u hu => by obtain ⟨_, _, rfl⟩ := List.mem_map.1 hu; rfl) h0 (by unfold maxLen; omega) (by omega) hbase _ rfl ?_
    · have hq : q < len := by
        rcases Nat.lt_or_ge q len with h | h
        · exact h
        · rw [List.getElem?_eq_none (by simpa using h)] at hu; cases hu
      have e : u = .int .i64 (f q) := by simpa [hq] using hu.symm
      rw [e, ← h3 q hq]
      by_cases c : q = 0
      · subst c; simp [Addr.add]
      · simp [Addr.add, c]
    · intro g cap' w' hown hgrow hat hlt
      simp only [Nat.zero_add, List.nil_append] at hown ⊢
      refine h _ w' hown hgrow (fun g' hg' => ?_)
      cases hg'
      rcases hat with hat | hat
      · cases hat
      · exact hat
end Go.Proofs.YtakaeikobahaoaaDoor

namespace Go.Proofs.YtakaeikobahaoaaDoor
open Go.RowKit Go.Maps
set_option linter.unusedVariables false
set_option maxRecDepth 100000

/-- The sets of a list of seeds. -/
noncomputable def mL (k : Nat) (A : List Nat) : List Nat := A.map fun x => maskL (setL k x)
theorem mL_pre (k : Nat) (s : Nat → Nat) (n : Nat) : mL k (preL s n) = preL (mD k s) n := by unfold mL preL mD; rw [List.map_map]; rfl
theorem mL_app (k : Nat) (A B : List Nat) : mL k (A ++ B) = mL k A ++ mL k B := List.map_append
theorem pre_getD (A : List Nat) : preL (fun i => A.getD i 0) A.length = A := by
  apply List.ext_getElem
  · simp [preL]
  · intro i h1 h2
    simp [preL, h2]
theorem mL_getD (k : Nat) (A : List Nat) : preL (mD k (fun i => A.getD i 0)) A.length = mL k A := by rw [← mL_pre, pre_getD]
theorem mL_unit {k : Nat} {U : List Nat} (hU : ∀ u ∈ U, u < k) : mL k (U.map (· + 1)) = U.map unit := by
  unfold mL
  rw [List.map_map]
  refine List.map_congr_left fun u hu => ?_
  show maskL (setL k (u + 1)) = unit u
  rw [setL_one (by have := hU u hu; omega), Nat.add_sub_cancel, maskL_unit]
/-- All of the first j of a list, each and one more, but one. -/
def fewL (wo : Int) (U : List Nat) : Nat → List Nat
  | 0 => []
  | j + 1 => if (j : Int) = wo then fewL wo U j else fewL wo U j ++ [U.getD j 0 + 1]
theorem fewL_len (wo : Int) (U : List Nat) : ∀ j : Nat, (fewL wo U j).length + (if 0 ≤ wo ∧ wo < (j : Int) then 1 else 0) = j
  | 0 => by rw [if_neg (by omega)]; rfl
  | j + 1 => by
    have ih := fewL_len wo U j
    unfold fewL
    by_cases c : (j : Int) = wo
    · rw [if_pos c, if_pos (by omega)]
      rw [if_neg (by omega)] at ih
      omega
    · rw [if_neg c, List.length_append]
      by_cases d : 0 ≤ wo ∧ wo < (j : Int)
      · rw [if_pos d] at ih
        rw [if_pos (by omega)]
        simp; omega
      · rw [if_neg d] at ih
        rw [if_neg (by omega)]
        simp; omega
theorem fewL_mem {wo : Int} {U : List Nat} {x : Nat} : ∀ {j : Nat}, j ≤ U.length → x ∈ fewL wo U j → ∃ u ∈ U, x = u + 1
  | 0, _, h => by cases h
  | j + 1, hj, h => by
    unfold fewL at h
    by_cases c : (j : Int) = wo
    · rw [if_pos c] at h; exact fewL_mem (by omega) h
    · rw [if_neg c] at h
      rcases List.mem_append.1 h with h | h
      · exact fewL_mem (by omega) h
      · exact ⟨U.getD j 0, by simp [List.getD, show j < U.length by omega], List.mem_singleton.1 h⟩
/-- With all that lack it is enough, and with one fewer it is not. -/
theorem all_rank {k len : Nat} {s : Nat → Nat} (hk : 1 ≤ k) (hs : ∀ j, j < len → 1 ≤ s j ∧ s j ≤ 10000) : rkL (mL k (preL s len ++ (upL (preL (mD k s) len) unit k).map (· + 1))) = k := by
  rw [mL_app, mL_pre, mL_unit (fun u hu => upL_lt hu), lack_fills (mD_lt hk hs)]
theorem few_rank {k len : Nat} {s : Nat → Nat} (hk : 1 ≤ k) (hs : ∀ j, j < len → 1 ≤ s j ∧ s j ≤ 10000) {wo : Int} (h0 : 0 ≤ wo) (h1 : wo < ((upL (preL (mD k s) len) unit k).length : Int)) :
    rkL (mL k (preL s len ++ fewL wo (upL (preL (mD k s) len) unit k) (upL (preL (mD k s) len) unit k).length)) < k := by
  have h2 := lack_len (L := preL (mD k s) len) (mD_lt hk hs)
  have h3 := fewL_len wo (upL (preL (mD k s) len) unit k) (upL (preL (mD k s) len) unit k).length
  rw [if_pos ⟨h0, h1⟩] at h3
  rw [mL_app, mL_pre]
  have h4 := (rkL_app (preL (mD k s) len) (mL k (fewL wo (upL (preL (mD k s) len) unit k) (upL (preL (mD k s) len) unit k).length))).2
  have h5 : (mL k (fewL wo (upL (preL (mD k s) len) unit k) (upL (preL (mD k s) len) unit k).length)).length = (fewL wo (upL (preL (mD k s) len) unit k) (upL (preL (mD k s) len) unit k).length).length := List.length_map _
  omega
theorem pre_good {s : Nat → Nat} {len : Nat} (hs : ∀ j, j < len → 1 ≤ s j ∧ s j ≤ 10000) : ∀ x ∈ preL s len, 1 ≤ x ∧ x ≤ 10000 := fun x hx => by
  obtain ⟨j, hj, rfl⟩ := mem_preL.1 hx
  exact hs j hj
theorem iV_pre (s : Nat → Nat) (n : Nat) : iV (preL s n) = (List.range n).map fun k : Nat => .int .i64 ((s k : Nat) : Int) := by unfold iV preL; rw [List.map_map]; rfl
theorem intsAt_list {w : World} {B : Nat} {v : Value} {A : List Nat} (h : w.ownsRow B 3 1 v A.length (iV A)) (hA : ∀ x ∈ A, 1 ≤ x ∧ x ≤ 10000) : IntsAt w v A.length (fun i => ((A.getD i 0 : Nat) : Int)) := by
  rcases Nat.eq_zero_or_pos A.length with e | h0
  · obtain ⟨a, cap, hv⟩ := own_slice h
    exact Or.inl ⟨e, a, cap, by rw [← e]; exact hv⟩
  · obtain ⟨g, cap, hv, h1, h2, h3⟩ := own_lst h h0
    refine Or.inr ⟨h0, g, 0, cap, hv, h1, h2, h3, fun i hi => WalkArith.wf_i64 ?_⟩
    have hm : A.getD i 0 ∈ A := by simp [List.getD, hi]
    have := hA _ hm
    show -9223372036854775808 ≤ ((A.getD i 0 : Nat) : Int) ∧ ((A.getD i 0 : Nat) : Int) ≤ 9223372036854775807
    omega
theorem rank_list {W : World} {B k n : Nat} {v : Value} {A : List Nat} (hk : 1 ≤ k) (hk2 : k ≤ 16) (hn : n ≤ 60) (hAn : A.length = n) (h : W.ownsRow B 3 1 v n (iV A)) (hA : ∀ x ∈ A, 1 ≤ x ∧ x ≤ 10000) :
    Calls Tryd.prog 25 #[.int .i64 k, v] W fun e w' => e = .returned (.tuple #[.int .i64 (rkL (mL k A) : Nat), .nilIface]) ∧ Below W.heap.size W w' := by
  subst hAn
  refine (rank_ok k v A.length (fun i => A.getD i 0) W (intsAt_list h hA) hn hk hk2 (fun j hj => hA _ (by simp [List.getD, hj]))).mono fun e w' ⟨r, he, hd, _, hb⟩ => ⟨?_, hb⟩
  have e9 := rkL_eq hd
  rw [mD_masks, mL_getD] at e9
  rw [he, e9]
theorem IntsAt.first {w : World} {a : Option Addr} {len cap : Nat} {f : Nat → Int} (h : IntsAt w (.slice a len cap) len f) {m : Nat} (hm : m ≤ len) : IntsAt w (.slice a m cap) m f := by
  rcases Nat.eq_zero_or_pos m with e | h0
  · exact Or.inl ⟨e, a, cap, by rw [e]⟩
  · rcases h with ⟨e, _⟩ | ⟨_, b, o, c, hv, h1, h2, h3, h4⟩
    · omega
    · injection hv with ha _ hc
      subst ha hc
      exact Or.inr ⟨h0, b, o, _, rfl, by omega, h2, fun i hi => h3 i (by omega), fun i hi => h4 i (by omega)⟩
/-- Of three blocks, with the second one there. -/
theorem fact_lacks : upL (preL (mD 3 (fun _ => 2)) 1) unit 3 = [0, 2] := by
  have e : preL (mD 3 (fun _ => 2)) 1 = [2] := by
    show [maskL (setL 3 2)] = [2]
    rw [setL_one (by omega)]; decide
  rw [e]
  have h0 : upL [2] unit 1 = [0] := by
    rw [upL_out (by simp [preL, Sp, XN, unit]), upL_zero]; rfl
  have h1 : upL [2] unit 2 = [0] := by
    rw [upL_in (by simp [preL, Sp, XN, unit, List.range_succ]), h0]
  rw [upL_out (by simp [preL, Sp, XN, unit, List.range_succ]), h1]; rfl
end Go.Proofs.YtakaeikobahaoaaDoor
