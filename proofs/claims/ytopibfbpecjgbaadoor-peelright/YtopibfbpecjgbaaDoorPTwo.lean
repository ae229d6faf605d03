/-
  Two Peelers side by side, and the drops that were made; what they have in common. Lemmas for the laws above; no statement is proved here.
-/
import Derived.Test.YtopibfbpecjgbaaDoorPKit
import Derived.Test.YtopibfbpecjgbaaDoorDropW
namespace Go.Proofs.YtopibfbpecjgbaaDoor
open Go.RowKit Go.Maps
set_option linter.unusedVariables false
set_option maxRecDepth 100000

theorem own_blk2 {w w' : World} {B e size n : Nat} {v : Value} {xs : List Value} (h : w.ownsRow B e size v n xs) (hb : ∀ i, v.ownBlock = some i → w'.heap[i]? = w.heap[i]?) : w'.ownsRow B e size v n xs := by
  refine ⟨h.1, ?_⟩
  rcases h.2 with hn | ⟨g, cap, cur, hv, h1, hgg, rest⟩
  · exact .inl hn
  · exact .inr ⟨g, cap, cur, hv, h1, (hb g (by rw [hv]; rfl)).trans hgg, rest⟩

structure Two (I : PIm) (w0 w : World) (vP vQ vm : Value) (k z : Nat) (p q : PS) (Tp Tq : List Nat) (Ms : List Drp) : Prop where
  stp : I.St w vP k z p Tp
  stq : I.St w vQ k z q Tq
  row : w.ownsRow w0.heap.size 32 2 vm Ms.length (dC Ms)
  apq : ∀ i, I.foot w vP i → ¬ I.foot w vQ i
  amp : ∀ i, vm.ownBlock = some i → ¬ I.foot w vP i
  amq : ∀ i, vm.ownBlock = some i → ¬ I.foot w vQ i
  frp : ∀ i, I.foot w vP i → w0.heap.size ≤ i
  frq : ∀ i, I.foot w vQ i → w0.heap.size ≤ i
  below : Below w0.heap.size w0 w
theorem Two.grow {I : PIm} {w0 w w' : World} {vP vQ vm : Value} {k z : Nat} {p q : PS} {Tp Tq : List Nat} {Ms : List Drp} (h : Two I w0 w vP vQ vm k z p q Tp Tq Ms) (hb : Below w.heap.size w w') : Two I w0 w' vP vQ vm k z p q Tp Tq Ms := by
  have h1 := I.below h.stp hb
  have h2 := I.below h.stq hb
  exact ⟨h1.1, h2.1, own_under' h.row hb, fun i hi hj => h.apq i (h1.2 i hi) (h2.2 i hj), fun i e hj => h.amp i e (h1.2 i hj), fun i e hj => h.amq i e (h2.2 i hj), fun i hi => h.frp i (h1.2 i hi), fun i hi => h.frq i (h2.2 i hi), below_two h.below hb⟩
/-- The first one takes a drop, or does not. -/
theorem Two.takeP {I : PIm} {w0 w w' : World} {vP vQ vm : Value} {k z : Nat} {p q p' : PS} {Tp Tq Tp' : List Nat} {Ms : List Drp} (h : Two I w0 w vP vQ vm k z p q Tp Tq Ms) (hs : I.St w' vP k z p' Tp') (hk : Kept (I.foot w vP) w w') (hf : ∀ i, I.foot w' vP i → I.foot w vP i ∨ w.heap.size ≤ i) : Two I w0 w' vP vQ vm k z p' q Tp' Tq Ms := by
  have h2 := I.keep h.stq hk.size fun i hi => hk.block i (I.foot_lt h.stq i hi) fun e => h.apq i e hi
  refine ⟨hs, h2.1, own_blk2 h.row fun i e => hk.block i (h.row.lt i e).2 (h.amp i e), fun i hi hj => ?_, fun i e hj => ?_, fun i e hj => h.amq i e (h2.2 i hj), fun i hi => ?_, fun i hi => h.frq i (h2.2 i hi), kept_below h.below hk h.frp⟩
  · have hj' := h2.2 i hj
    rcases hf i hi with h9 | h9
    · exact h.apq i h9 hj'
    · have := I.foot_lt h.stq i hj'; omega
  · rcases hf i hj with h9 | h9
    · exact h.amp i e h9
    · have := (h.row.lt i e).2; omega
  · rcases hf i hi with h9 | h9
    · exact h.frp i h9
    · exact Nat.le_trans h.below.size h9
/-- The second one does. -/
theorem Two.takeQ {I : PIm} {w0 w w' : World} {vP vQ vm : Value} {k z : Nat} {p q q' : PS} {Tp Tq Tq' : List Nat} {Ms : List Drp} (h : Two I w0 w vP vQ vm k z p q Tp Tq Ms) (hs : I.St w' vQ k z q' Tq') (hk : Kept (I.foot w vQ) w w') (hf : ∀ i, I.foot w' vQ i → I.foot w vQ i ∨ w.heap.size ≤ i) : Two I w0 w' vP vQ vm k z p q' Tp Tq' Ms := by
  have h2 := I.keep h.stp hk.size fun i hi => hk.block i (I.foot_lt h.stp i hi) fun e => h.apq i hi e
  refine ⟨h2.1, hs, own_blk2 h.row fun i e => hk.block i (h.row.lt i e).2 (h.amq i e), fun i hi hj => ?_, fun i e hj => h.amp i e (h2.2 i hj), fun i e hj => ?_, fun i hi => h.frp i (h2.2 i hi), fun i hi => ?_, kept_below h.below hk h.frq⟩
  · have hi' := h2.2 i hi
    rcases hf i hj with h9 | h9
    · exact h.apq i hi' h9
    · have := I.foot_lt h.stp i hi'; omega
  · rcases hf i hj with h9 | h9
    · exact h.amq i e h9
    · have := (h.row.lt i e).2; omega
  · rcases hf i hi with h9 | h9
    · exact h.frq i h9
    · exact Nat.le_trans h.below.size h9
/-- A drop more was made. -/
theorem Two.push {I : PIm} {w0 w w' : World} {vP vQ vm v : Value} {k z : Nat} {p q : PS} {Tp Tq : List Nat} {Ms : List Drp} {d : Drp} (h : Two I w0 w vP vQ vm k z p q Tp Tq Ms) (hg : w.grownBy w' vm.ownBlock) (hv : w'.ownsRow w0.heap.size 32 2 v (Ms ++ [d]).length (dC (Ms ++ [d]))) (hat : v.ownBlock = vm.ownBlock ∨ ∃ i, v.ownBlock = some i ∧ w.heap.size ≤ i) : Two I w0 w' vP vQ v k z p q Tp Tq (Ms ++ [d]) := by
  have h1 := I.keep h.stp hg.size fun i hi => hg.block i (I.foot_lt h.stp i hi) fun e => h.amp i e.symm hi
  have h2 := I.keep h.stq hg.size fun i hi => hg.block i (I.foot_lt h.stq i hi) fun e => h.amq i e.symm hi
  refine ⟨h1.1, h2.1, hv, fun i hi hj => h.apq i (h1.2 i hi) (h2.2 i hj), fun i e hj => ?_, fun i e hj => ?_, fun i hi => h.frp i (h1.2 i hi), fun i hi => h.frq i (h2.2 i hi), h.below.grown hg h.below.size fun i e => (h.row.lt i e).1⟩
  · have hj' := h1.2 i hj
    rcases hat with e2 | ⟨m, e2, hm⟩
    · exact h.amp i (e2 ▸ e) hj'
    · rw [e] at e2; cases e2
      have := I.foot_lt h.stp i hj'; omega
  · have hj' := h2.2 i hj
    rcases hat with e2 | ⟨m, e2, hm⟩
    · exact h.amq i (e2 ▸ e) hj'
    · rw [e] at e2; cases e2
      have := I.foot_lt h.stq i hj'; omega

/-- A peeler that has taken just these drops of the blocks g. -/
structure Rt (g : Nat → ByteArray) (k : Nat) (p : PS) (T : List Nat) (Ms : List Drp) : Prop where
  took : Took (setL k) p Ms
  seeds : T = Ms.map Prod.fst
  so : ∀ r, p.known r = true → p.B r = g r
  lt : ∀ r, p.known r = true → r < k
  are : ∀ d ∈ Ms, (1 ≤ d.1 ∧ d.1 ≤ 10000) ∧ d.2 = dropB g k d.1
theorem rt_none (g : Nat → ByteArray) (k : Nat) : Rt g k p0 [] [] := ⟨took_none _ _, rfl, (fun r h => by cases h), (fun r h => by cases h), fun d hd => absurd hd (by simp)⟩
theorem setL_nodup (k s : Nat) : (setL k s).Nodup := (setL_rise k s).imp (fun h => by omega)
theorem Rt.take {g : Nat → ByteArray} {k : Nat} {p a : PS} {T : List Nat} {Ms : List Drp} (h : Rt g k p T Ms) (hk : 1 ≤ k) (hz : ∀ r, r < k → (g r).size = (g 0).size) {n : Nat} (h1 : 1 ≤ n) (h2 : n ≤ 10000) (hp : Peels (setL k) ⟨p.known, p.B, p.L ++ [(n, dropB g k n)]⟩ a) : Rt g k a (T ++ [n]) (Ms ++ [(n, dropB g k n)]) := by
  have hin : ∀ d ∈ p.L ++ [(n, dropB g k n)], 1 ≤ d.1 ∧ d.2 = dropB g k d.1 := fun d hd => by
    rcases List.mem_append.1 hd with hd | hd
    · rw [h.took.waits] at hd
      have := h.are d (mem_sift.1 hd).1
      exact ⟨this.1.1, this.2⟩
    · rw [List.mem_singleton.1 hd]; exact ⟨h1, rfl⟩
  refine ⟨h.took.take (setL_nodup k) _ hp, by rw [h.seeds, List.map_append]; rfl, hp.sound hk hz h.so hin, hp.lt hk (fun d hd => (hin d hd).1) h.lt, fun d hd => ?_⟩
  rcases List.mem_append.1 hd with hd | hd
  · exact h.are d hd
  · rw [List.mem_singleton.1 hd]; exact ⟨⟨h1, h2⟩, rfl⟩
theorem Rt.grows {k : Nat} {p a : PS} {d : Drp} (hp : Peels (setL k) ⟨p.known, p.B, p.L ++ [d]⟩ a) : (knows k a.known).length = (knows k p.known).length + (came k p.known a.known).length := came_len _ _ hp.grows k
theorem dropB_fits (g : Nat → ByteArray) (k n : Nat) : (dropB g k n).size = (g 0).size := dropB_size _ _ _
/-- What Take finds of a drop of the blocks. -/
theorem tF_made {g : Nat → ByteArray} {k z n : Nat} {T : List Nat} (hk : 1 ≤ k ∧ k ≤ 16) (hz : (1 ≤ z ∧ z ≤ 8) ∧ (g 0).size = z) (h1 : 1 ≤ n) (h2 : n ≤ 10000) (hT : T.length < 60) : tF k z T (n : Int) (dropB g k n).size = if n ∈ T then 7 else 0 := by
  have hfd : fD k z (n : Int) (dropB g k n).size = 0 := by
    unfold fD
    rw [if_pos (by unfold OkD; omega), if_pos (by rw [dropB_fits, hz.2])]
  by_cases c : n ∈ T
  · rw [if_pos c]
    unfold tF
    rw [if_neg (by simp [hfd]), if_pos (by simpa using c)]
  · rw [if_neg c]
    exact tF_ok hfd c (by omega)
/-- Those that are left, from the end. -/
theorem drop_rev {Ms : List Drp} {c : Nat} (h : c < Ms.length) : (Ms.drop c).reverse = (Ms.drop (c + 1)).reverse ++ [dAt Ms c] := by
  have e : Ms.drop c = dAt Ms c :: Ms.drop (c + 1) := by rw [List.drop_eq_getElem_cons h]; simp [dAt, List.getD, h]
  rw [e, List.reverse_cons]
theorem left_new {Ms : List Drp} {c : Nat} (h : c < Ms.length) (hn : (Ms.map Prod.fst).Nodup) : (dAt Ms c).1 ∉ (Ms.drop (c + 1)).reverse.map Prod.fst := fun hm => by
  have e : Ms.drop c = dAt Ms c :: Ms.drop (c + 1) := by rw [List.drop_eq_getElem_cons h]; simp [dAt, List.getD, h]
  have h1 : ((Ms.drop c).map Prod.fst).Nodup := hn.sublist ((List.drop_sublist c Ms).map _)
  rw [e, List.map_cons, List.nodup_cons] at h1
  rw [List.map_reverse, List.mem_reverse] at hm
  exact h1.1 hm
theorem Rt.dropT {g : Nat → ByteArray} {k : Nat} {p : PS} {T : List Nat} {Ms : List Drp} (h : Rt g k p T Ms) {c : Nat} (hc : c < Ms.length) : (1 ≤ (dAt Ms c).1 ∧ (dAt Ms c).1 ≤ 10000) ∧ (dAt Ms c).2 = dropB g k (dAt Ms c).1 := h.are _ (dAt_mem hc)
theorem knows_mem {k : Nat} {kn : Nat → Bool} {r : Nat} (h : r ∈ knows k kn) : r < k ∧ kn r = true := ⟨List.mem_range.1 (List.mem_filter.1 h).1, (List.mem_filter.1 h).2⟩
end Go.Proofs.YtopibfbpecjgbaaDoor
