/-
  Lemmas for the law above, joined into one text (IClone). No statement is proved here.
-/
import Derived.Test.YtjhflcgphejddaaGreatDoorZG18
import Derived.Lib.SliceRun
namespace Go.Proofs.YtjhflcgphejddaaGreatDoor
open Go.RowKit
set_option linter.unusedVariables false
set_option maxRecDepth 100000

set_option maxHeartbeats 1000000 in
theorem clone_ok {v : Value} {l : List Nat} {w : World} (h : Lst w v l) (h0 : 0 < l.length) (hl : l.length ≤ 16) :
    Calls Tryz.prog 159 #[v] w fun e w' => ∃ v', e = .returned v' ∧ w'.ownsRow w.heap.size 3 1 v' l.length (toV l) ∧ Below w.heap.size w w' := by
  obtain ⟨g, cap, rfl, h1, h2, h3⟩ := h
  have HC : Hid (∀ j u, (toV l)[j]? = some u → w.cell? ((⟨g, 0, none⟩ : Addr).add j) = some u) := fun j u hu => by
    unfold toV at hu
    rw [List.getElem?_map] at hu
    cases hj : l[j]? with
    | none => rw [hj] at hu; cases hu
    | some r =>
      rw [hj] at hu
      have hlt : j < l.length := (List.getElem?_eq_some_iff.1 hj).1
      have := h3 j hlt
      rw [Addr.add_lit, this, ← hu]
      simp [List.getD, hj]
  clear h3
  unfold maxLen at h2
  obtain ⟨i0, hi, hz0, hz1, hz2⟩ := info_parts Tryz.infoInt
  have Hi := hide hi
  have Hz0 := hide hz0
  have Hz1 := hide hz1
  have Hz2 := hide hz2
  clear hi hz0 hz1 hz2
  have q23 : ∀ (w : World) (a : Option Addr) (n c n' c' : Nat), (binOp .eql 23 (.slice a n c) (.slice none n' c')).run Tryz.prog w = .ok (.bool a.isNone) w := fun w a n c n' c' => Lib.run_eql_slice_nil w _ _ a n c n' c' Tryz.underlying23
  go_enter Tryz.func159, Tryz.ntmps159
  go_wp2_with (at_builtin; refine wpList_append_own _ rfl _ _ 23 rfl w.heap.size 3 i0 (.int .i64 0) 1 8 Tryz.underlying23 Hi.out Hz0.out Hz1.out Hz2.out rfl (by decide) _ _ _ rfl (World.ownsRow_made w #[] 0 (Nat.le_refl _) (Nat.zero_le _) rfl) ⟨g, 0, none⟩ l.length cap (toV l) rfl (by simp [toV]) (fun j u hu => Lib.cell?_alloc_some _ (HC.out j u hu)) (toV_one l) (by unfold maxLen; omega) (by omega) (by simp) ?_; intro v' w1 hown hgrow hnil)
  go_ret
  refine ⟨v', rfl, by simpa using hown, ?_⟩
  exact ((Below.refl _ w).alloc (Nat.le_refl _) _).grown hgrow (by simp) (by intro k hk; cases hk; exact Nat.le_refl _)

/-- What IndexFunc tells: the first, or none. -/
def IsIdx (p : Nat → Bool) (n : Nat) (i : Int) : Prop := (i = -1 ∧ ∀ q, q < n → p q = false) ∨ ∃ j : Nat, i = j ∧ j < n ∧ p j = true ∧ ∀ q, q < j → p q = false

/-! DeleteFunc: the row as it goes. -/
/-- Of l the first j are done: i of them are kept, and lie at the head of X; behind j it is as it was. -/
structure KInv {α : Type} (del : α → Bool) (l : List α) (i j : Nat) (X : List α) : Prop where
  lt : i < j
  le : j ≤ l.length
  len : X.length = l.length
  head : X.take i = (l.take j).filter fun x => !del x
  tail : X.drop j = l.drop j
theorem filter_last {α : Type} {del : α → Bool} {l : List α} {j : Nat} {x : α} (hx : l[j]? = some x) : (l.take (j + 1)).filter (fun x => !del x) = (l.take j).filter (fun x => !del x) ++ if del x then [] else [x] := by
  rw [List.take_add_one, hx, List.filter_append]
  congr 1
  cases e : del x <;> simp [e]
theorem KInv.start {α : Type} {del : α → Bool} {l : List α} {j : Nat} (hno : ∀ q x, q < j → l[q]? = some x → del x = false) {x : α} (hx : l[j]? = some x) (hd : del x = true) : KInv del l j (j + 1) l := by
  have hlt := (List.getElem?_eq_some_iff.1 hx).1
  refine ⟨by omega, by omega, rfl, ?_, rfl⟩
  rw [filter_last hx, hd, if_pos rfl, List.append_nil]
  refine (List.filter_eq_self.2 fun a ha => ?_).symm
  obtain ⟨q, hq, e⟩ := List.getElem_of_mem ha
  simp only [List.length_take] at hq
  rw [List.getElem_take] at e
  rw [hno q a (by omega) (by rw [← e]; exact List.getElem?_eq_getElem _)]; rfl
theorem KInv.nth {α : Type} {del : α → Bool} {l X : List α} {i j : Nat} (h : KInv del l i j X) : X[j]? = l[j]? := by
  have := congrArg (fun l => l[0]?) h.tail
  simpa using this
theorem KInv.skip {α : Type} {del : α → Bool} {l X : List α} {i j : Nat} (h : KInv del l i j X) {x : α} (hx : l[j]? = some x) (hd : del x = true) : KInv del l i (j + 1) X := by
  have hlt := (List.getElem?_eq_some_iff.1 hx).1
  have := h.lt
  refine ⟨by omega, by omega, h.len, ?_, ?_⟩
  · rw [filter_last hx, hd, if_pos rfl, List.append_nil, h.head]
  · rw [← List.drop_drop, ← List.drop_drop, h.tail]
theorem KInv.keep {α : Type} {del : α → Bool} {l X : List α} {i j : Nat} (h : KInv del l i j X) {x : α} (hx : l[j]? = some x) (hd : del x = false) : KInv del l (i + 1) (j + 1) (X.set i x) := by
  have hlt := (List.getElem?_eq_some_iff.1 hx).1
  have h1 := h.lt
  have h2 := h.len
  refine ⟨by omega, by omega, by simp [h2], ?_, ?_⟩
  · rw [filter_last hx, hd]
    rw [List.take_add_one, List.take_set_of_le (Nat.le_refl _), h.head]
    congr 1
    rw [List.getElem?_set_self (by omega)]; rfl
  · rw [List.drop_set_of_lt (by omega), ← List.drop_drop, ← List.drop_drop, h.tail]
theorem KInv.done {α : Type} {del : α → Bool} {l X : List α} {i : Nat} (h : KInv del l i l.length X) : X.take i = l.filter fun x => !del x := by rw [h.head, List.take_length]
theorem set_below {B g : Nat} {a : World} (hb : B ≤ g) : ∀ (vs : List Value) (o : Nat) (w : World), Below B a w → Below B a (w.setCells g o vs)
  | [], _, _, h => h
  | v :: r, o, w, h => set_below hb r (o + 1) _ (h.setCell hb _)
end Go.Proofs.YtjhflcgphejddaaGreatDoor
