/-
  Lemmas for the law above, joined into one text (OwnCut, IClone). No statement is proved here.
-/
import Derived.Test.YtjgifjkdgoijmaaGreatDoorYG1
import Derived.Lib.SliceRun
namespace Go.Proofs.YtjgifjkdgoijmaaGreatDoor
open Go.RowKit
set_option linter.unusedVariables false
set_option maxRecDepth 100000

theorem own_cut {w : World} {B e size g n cap : Nat} {xs : List Value} (h : w.ownsRow B e size (.slice (some ⟨g, 0, none⟩) n cap) n xs) {i : Nat} (hi : i ≤ n) : w.ownsRow B e size (.slice (some ⟨g, 0, none⟩) i cap) i (xs.take (i * size)) := by
  have hm : i * size ≤ n * size := Nat.mul_le_mul_right _ hi
  rcases h.2 with ⟨hv, _⟩ | ⟨g', cap', cur, hv, h1, h2, h3, h4, h5, h6⟩
  · cases hv
  · cases hv
    refine ⟨by rw [List.length_take, h.1]; omega, Or.inr ⟨g, cap, cur, rfl, h1, h2, by omega, h4, h5, ?_⟩⟩
    rw [← h6, List.take_take, Nat.min_eq_left hm]
theorem own_sets {B e size g n cap : Nat} : ∀ (vs : List Value) (o : Nat) (w : World) (xs : List Value), w.ownsRow B e size (.slice (some ⟨g, 0, none⟩) n cap) n xs → ∃ ys, (w.setCells g o vs).ownsRow B e size (.slice (some ⟨g, 0, none⟩) n cap) n ys ∧ ys.take o = xs.take o
  | [], o, w, xs, h => ⟨xs, h, rfl⟩
  | v :: r, o, w, xs, h => by
    obtain ⟨ys, h1, h2⟩ := own_sets r (o + 1) _ _ (h.stored o v).1
    refine ⟨ys, h1, ?_⟩
    have := congrArg (List.take o) h2
    rw [List.take_take, List.take_take, Nat.min_eq_left (Nat.le_succ o), List.take_set_of_le (Nat.le_refl _)] at this
    exact this
/-- 'clear(s)' of elements of two cells. -/
theorem run_clear_two {P : Program} (w : World) (t e ty : TypeId) (x y : Value) (ht : P.underlying t = some (.slice e)) (hv : ∀ w, (zeroValue e).run P w = .ok (.agg #[x, y]) w) (hz : (Value.agg #[x, y]).cells = #[x, y]) (h1 : x.oneCell' = true) (h2 : y.oneCell' = true) (b o n c : Nat) (hn : 0 < n)
    (hc : ∀ j, j < n * 2 → (w.cell? ⟨b, o + j, none⟩).isSome = true) (hf : ∀ j, j < n * 2 → w.frozen? ⟨b, o + j, none⟩ = false) :
    (Builtin.clear_ #[t] ty #[.slice (some ⟨b, o, none⟩) n c]).run P w = .ok (.tuple #[]) (w.setCells b o (Builtin.zeroCells #[x, y] n).toList) := by
  have hlen : (Builtin.zeroCells #[x, y] n).toList.length = n * 2 := by simp [Builtin.zeroCells]
  have hone : ∀ v ∈ (Builtin.zeroCells #[x, y] n).toList, v.oneCell' = true := fun v hv => by
    simp [Builtin.zeroCells] at hv
    obtain ⟨i, hi, rfl⟩ := hv
    rcases Nat.mod_two_eq_zero_or_one i with e | e <;> simp [e, h1, h2]
  have hst := run_storeCells_cells (P := P) b o (Builtin.zeroCells #[x, y] n).toList 0 w (by rw [hlen]; simpa using hc) (by rw [hlen]; simpa using hf) hone
  simp only [Nat.add_zero] at hst
  obtain ⟨m, rfl⟩ : ∃ m, n = m + 1 := ⟨n - 1, by omega⟩
  simp [Builtin.clear_, run_underlying ht, hv, hz, hst]
theorem kept_sets {M : Nat → Prop} {w0 : World} {g : Nat} : ∀ {w : World}, Kept M w0 w → ∀ (vs : List Value) (o : Nat), M g → Kept M w0 (w.setCells g o vs)
  | _, h, [], _, _ => h
  | _, h, v :: r, o, hm => kept_sets (h.setCell ⟨g, o, none⟩ v (Or.inl hm)) r (o + 1) hm
/-- A row with some cells written over from place o on. -/
def puts : List Value → Nat → List Value → List Value
  | xs, _, [] => xs
  | xs, o, v :: r => puts (xs.set o v) (o + 1) r
theorem own_puts {B e size g n cap : Nat} : ∀ (vs : List Value) (o : Nat) (w : World) (xs : List Value), w.ownsRow B e size (.slice (some ⟨g, 0, none⟩) n cap) n xs → (w.setCells g o vs).ownsRow B e size (.slice (some ⟨g, 0, none⟩) n cap) n (puts xs o vs)
  | [], o, w, xs, h => h
  | v :: r, o, w, xs, h => own_puts r (o + 1) _ _ (h.stored o v).1
theorem puts_eq : ∀ (vs : List Value) (o : Nat) (xs : List Value), o + vs.length ≤ xs.length → puts xs o vs = xs.take o ++ vs ++ xs.drop (o + vs.length)
  | [], o, xs, h => by simp [puts]
  | v :: r, o, xs, h => by
    have h' : o + (r.length + 1) ≤ xs.length := by simpa using h
    have ho : o < xs.length := by omega
    show puts (xs.set o v) (o + 1) r = _
    rw [puts_eq r (o + 1) (xs.set o v) (by rw [List.length_set]; omega)]
    have e1 : (xs.set o v).take (o + 1) = xs.take o ++ [v] := by
      rw [List.take_add_one, List.take_set_of_le (Nat.le_refl o)]
      simp [ho]
    have e2 : (xs.set o v).drop (o + 1 + r.length) = xs.drop (o + (v :: r).length) := by
      rw [List.drop_set_of_lt (by omega)]
      congr 1
      simp; omega
    rw [e1, e2, List.append_assoc, List.append_assoc, List.append_assoc]
    rfl
end Go.Proofs.YtjgifjkdgoijmaaGreatDoor

namespace Go.Proofs.YtjgifjkdgoijmaaGreatDoor
open Go.RowKit
set_option linter.unusedVariables false
set_option maxRecDepth 100000

set_option maxHeartbeats 1000000 in
theorem clone_ok {v : Value} {l : List Nat} {w : World} (h : Lst w v l) (h0 : 0 < l.length) (hl : l.length ≤ 16) :
    Calls Tryz.prog 132 #[v] w fun e w' => ∃ v', e = .returned v' ∧ w'.ownsRow w.heap.size 3 1 v' l.length (toV l) ∧ Below w.heap.size w w' := by
  obtain ⟨g, cap, rfl, h1, h2, h3⟩ := h
  have HC : Hid (∀ j u, (toV l)[j]? = some u → w.cell? ((⟨g, 0, none⟩ : Addr).add j) = some u) := fun j u hu => by
    unfold toV at hu
    rw [List.getElem?_map] at hu
    cases hj : l[j]? with
    | none => rw [hj] at hu; cases hu
    | some r =>
      rw [hj] at hu
      have hlt : j < l.length := (List.getElem?_eq_some_iff.1 hj).1
      have := h3 j hlt
      rw [Addr.add_lit, this, ← hu]
      simp [List.getD, hj]
  clear h3
  unfold maxLen at h2
  obtain ⟨i0, hi, hz0, hz1, hz2⟩ := info_parts Tryz.infoInt
  have Hi := hide hi
  have Hz0 := hide hz0
  have Hz1 := hide hz1
  have Hz2 := hide hz2
  clear hi hz0 hz1 hz2
  have q23 : ∀ (w : World) (a : Option Addr) (n c n' c' : Nat), (binOp .eql 22 (.slice a n c) (.slice none n' c')).run Tryz.prog w = .ok (.bool a.isNone) w := fun w a n c n' c' => Lib.run_eql_slice_nil w _ _ a n c n' c' Tryz.underlying22
  go_enter Tryz.func132, Tryz.ntmps132
  go_wp2_with (at_builtin; refine wpList_append_own _ rfl _ _ 22 rfl w.heap.size 3 i0 (.int .i64 0) 1 8 Tryz.underlying22 Hi.out Hz0.out Hz1.out Hz2.out rfl (by decide) _ _ _ rfl (World.ownsRow_made w #[] 0 (Nat.le_refl _) (Nat.zero_le _) rfl) ⟨g, 0, none⟩ l.length cap (toV l) rfl (by simp [toV]) (fun j u hu => Lib.cell?_alloc_some _ (HC.out j u hu)) (toV_one l) (by unfold maxLen; omega) (by omega) (by simp) ?_; intro v' w1 hown hgrow hnil)
  go_ret
  refine ⟨v', rfl, by simpa using hown, ?_⟩
  exact ((Below.refl _ w).alloc (Nat.le_refl _) _).grown hgrow (by simp) (by intro k hk; cases hk; exact Nat.le_refl _)

/-- What IndexFunc tells: the first, or none. -/
def IsIdx (p : Nat → Bool) (n : Nat) (i : Int) : Prop := (i = -1 ∧ ∀ q, q < n → p q = false) ∨ ∃ j : Nat, i = j ∧ j < n ∧ p j = true ∧ ∀ q, q < j → p q = false

/-! DeleteFunc: the row as it goes. -/
/-- Of l the first j are done: i of them are kept, and lie at the head of X; behind j it is as it was. -/
structure KInv {α : Type} (del : α → Bool) (l : List α) (i j : Nat) (X : List α) : Prop where
  lt : i < j
  le : j ≤ l.length
  len : X.length = l.length
  head : X.take i = (l.take j).filter fun x => !del x
  tail : X.drop j = l.drop j
theorem filter_last {α : Type} {del : α → Bool} {l : List α} {j : Nat} {x : α} (hx : l[j]? = some x) : (l.take (j + 1)).filter (fun x => !del x) = (l.take j).filter (fun x => !del x) ++ if del x then [] else [x] := by
  rw [List.take_add_one, hx, List.filter_append]
  congr 1
  cases e : del x <;> simp [e]
theorem KInv.start {α : Type} {del : α → Bool} {l : List α} {j : Nat} (hno : ∀ q x, q < j → l[q]? = some x → del x = false) {x : α} (hx : l[j]? = some x) (hd : del x = true) : KInv del l j (j + 1) l := by
  have hlt := (List.getElem?_eq_some_iff.1 hx).1
  refine ⟨by omega, by omega, rfl, ?_, rfl⟩
  rw [filter_last hx, hd, if_pos rfl, List.append_nil]
  refine (List.filter_eq_self.2 fun a ha => ?_).symm
  obtain ⟨q, hq, e⟩ := List.getElem_of_mem ha
  simp only [List.length_take] at hq
  rw [List.getElem_take] at e
  rw [hno q a (by omega) (by rw [← e]; exact List.getElem?_eq_getElem _)]; rfl
theorem KInv.nth {α : Type} {del : α → Bool} {l X : List α} {i j : Nat} (h : KInv del l i j X) : X[j]? = l[j]? := by
  have := congrArg (fun l => l[0]?) h.tail
  simpa using this
theorem KInv.skip {α : Type} {del : α → Bool} {l X : List α} {i j : Nat} (h : KInv del l i j X) {x : α} (hx : l[j]? = some x) (hd : del x = true) : KInv del l i (j + 1) X := by
  have hlt := (List.getElem?_eq_some_iff.1 hx).1
  have := h.lt
  refine ⟨by omega, by omega, h.len, ?_, ?_⟩
  · rw [filter_last hx, hd, if_pos rfl, List.append_nil, h.head]
  · rw [← List.drop_drop, ← List.drop_drop, h.tail]
theorem KInv.keep {α : Type} {del : α → Bool} {l X : List α} {i j : Nat} (h : KInv del l i j X) {x : α} (hx : l[j]? = some x) (hd : del x = false) : KInv del l (i + 1) (j + 1) (X.set i x) := by
  have hlt := (List.getElem?_eq_some_iff.1 hx).1
  have h1 := h.lt
  have h2 := h.len
  refine ⟨by omega, by omega, by simp [h2], ?_, ?_⟩
  · rw [filter_last hx, hd]
    rw [List.take_add_one, List.take_set_of_le (Nat.le_refl _), h.head]
    congr 1
    rw [List.getElem?_set_self (by omega)]; rfl
  · rw [List.drop_set_of_lt (by omega), ← List.drop_drop, ← List.drop_drop, h.tail]
theorem KInv.done {α : Type} {del : α → Bool} {l X : List α} {i : Nat} (h : KInv del l i l.length X) : X.take i = l.filter fun x => !del x := by rw [h.head, List.take_length]
theorem set_below {B g : Nat} {a : World} (hb : B ≤ g) : ∀ (vs : List Value) (o : Nat) (w : World), Below B a w → Below B a (w.setCells g o vs)
  | [], _, _, h => h
  | v :: r, o, w, h => set_below hb r (o + 1) _ (h.setCell hb _)
end Go.Proofs.YtjgifjkdgoijmaaGreatDoor
