/-
  Lemmas for the law above, joined into one text (PSt, SClone, PSort). No statement is proved here.
-/
import Derived.Test.YtjgifjkdgoijmaaGreatEG15
import Derived.Shelf.LaysM
import Derived.Shelf.Strconv.Clone
import Derived.Test.YtjgifjkdgoijmaaGreatEG0
import Derived.Shelf.Sort.Plain
import Derived.Shelf.Slices.In.SortNone
import Derived.Sort.OwnSortedInts
import Derived.Test.YtjgifjkdgoijmaaGreatEG8
namespace Go.Proofs.YtjgifjkdgoijmaaGreat
open Go.RowKit Go.Maps
set_option linter.unusedVariables false
set_option maxRecDepth 100000

theorem MSet.of_block {w w' : World} {b : Nat} {l : List Nat} {D : DataW Unit} (h : MSet w b l D) (hb : w'.heap[b]? = w.heap[b]?) : MSet w' b l D := ⟨ownsMap_block h.1 hb, h.2⟩
theorem Lst.of_block {w w' : World} {g n c : Nat} {l : List Nat} (h : Lst w (.slice (some ⟨g, 0, none⟩) n c) l) (hb : w'.heap[g]? = w.heap[g]?) : Lst w' (.slice (some ⟨g, 0, none⟩) n c) l := by
  obtain ⟨g', cap, hv, h1, h2, h3⟩ := h
  have e : g = g' := by injection hv with e; injection e with e; injection e with e
  subst e
  exact ⟨g, cap, hv, h1, h2, fun i hi => (World.cell?_of_block (w := w) hb).trans (h3 i hi)⟩
structure PQ (w : World) (b tb kb k z : Nat) (p : PS) (T : List Nat) (vW : Value) (X : List Wtr) : Prop where
  ck : w.cell? ⟨b, 0, none⟩ = some (.int .i64 k)
  cz : w.cell? ⟨b, 1, none⟩ = some (.int .i64 z)
  ct : w.cell? ⟨b, 2, none⟩ = some (.map (some tb))
  cn : w.cell? ⟨b, 3, none⟩ = some (.map (some kb))
  cw : w.cell? ⟨b, 4, none⟩ = some vW
  cf : w.frozen? ⟨b, 4, none⟩ = false
  tk : ∃ D, MSet w tb T D
  kn : ∃ D, MKn w kb k p.known p.B D
  row : w.ownsRow 0 138 2 vW X.length (wC X)
  xs : X.map Wtr.d = p.L
  sets : ∀ x ∈ X, Lst w (.slice (some ⟨x.g, 0, none⟩) x.n x.c) (setL k x.d.1)
  good : Good z p
  few : p.L.length ≤ T.length ∧ T.length ≤ 60
  lt : ∀ r, p.known r = true → r < k
  nk : 1 ≤ k ∧ k ≤ 16
  nz : 1 ≤ z ∧ z ≤ 8
  nbt : b ≠ tb
  nbk : b ≠ kb
  ntk : tb ≠ kb
  apW : ∀ i, vW.ownBlock = some i → i ≠ b ∧ i ≠ tb ∧ i ≠ kb
  apX : ∀ x ∈ X, x.g ≠ b ∧ x.g ≠ tb ∧ x.g ≠ kb ∧ vW.ownBlock ≠ some x.g
/-- Its blocks. -/
def PF (b tb kb : Nat) (vW : Value) (X : List Wtr) (i : Nat) : Prop := i = b ∨ i = tb ∨ i = kb ∨ vW.ownBlock = some i ∨ ∃ x ∈ X, i = x.g
theorem PQ.seeds {w : World} {b tb kb k z : Nat} {p : PS} {T : List Nat} {vW : Value} {X : List Wtr} (h : PQ w b tb kb k z p T vW X) : ∀ x ∈ X, 1 ≤ x.d.1 ∧ x.d.1 ≤ 10000 ∧ x.d.2.size = z := fun x hx => h.good.1 x.d (by rw [← h.xs]; exact List.mem_map_of_mem hx)
theorem PQ.len {w : World} {b tb kb k z : Nat} {p : PS} {T : List Nat} {vW : Value} {X : List Wtr} (h : PQ w b tb kb k z p T vW X) : X.length = p.L.length := by rw [← h.xs, List.length_map]
theorem PQ.flt {w : World} {b tb kb k z : Nat} {p : PS} {T : List Nat} {vW : Value} {X : List Wtr} (h : PQ w b tb kb k z p T vW X) : ∀ i, PF b tb kb vW X i → i < w.heap.size := fun i hi => by
  rcases hi with rfl | rfl | rfl | e | ⟨x, hx, rfl⟩
  · exact cell_lt h.ck
  · obtain ⟨D, hD⟩ := h.tk
    exact hD.1.lt
  · obtain ⟨D, hD⟩ := h.kn
    exact hD.lt
  · exact (h.row.lt i e).2
  · obtain ⟨g, cap, hv, h1, h2, h3⟩ := h.sets x hx
    have e : x.g = g := by injection hv with e; injection e with e; injection e with e
    rw [e]
    exact cell_lt (h3 0 (setL_len h.nk.1 h.nk.2 (h.seeds x hx).1 (h.seeds x hx).2.1).1)
theorem PQ.keep {w w' : World} {b tb kb k z : Nat} {p : PS} {T : List Nat} {vW : Value} {X : List Wtr} (h : PQ w b tb kb k z p T vW X) (hb : ∀ i, PF b tb kb vW X i → w'.heap[i]? = w.heap[i]?) : PQ w' b tb kb k z p T vW X := by
  have hbb := hb b (Or.inl rfl)
  have hc : ∀ i, w'.cell? ⟨b, i, none⟩ = w.cell? ⟨b, i, none⟩ := fun i => World.cell?_of_block (w := w) hbb
  have hf : ∀ i, w'.frozen? ⟨b, i, none⟩ = w.frozen? ⟨b, i, none⟩ := fun i => World.frozen?_of_block (w := w) hbb
  obtain ⟨Dt, ht⟩ := h.tk
  obtain ⟨Dk, hk⟩ := h.kn
  exact ⟨(hc 0).trans h.ck, (hc 1).trans h.cz, (hc 2).trans h.ct, (hc 3).trans h.cn, (hc 4).trans h.cw, (hf 4).trans h.cf, ⟨Dt, ht.of_block (hb tb (Or.inr (Or.inl rfl)))⟩, ⟨Dk, hk.of_block (hb kb (Or.inr (Or.inr (Or.inl rfl))))⟩,
    own_blk h.row fun i e => hb i (Or.inr (Or.inr (Or.inr (Or.inl e)))), h.xs, fun x hx => (h.sets x hx).of_block (hb x.g (Or.inr (Or.inr (Or.inr (Or.inr ⟨x, hx, rfl⟩))))), h.good, h.few, h.lt, h.nk, h.nz, h.nbt, h.nbk, h.ntk, h.apW, h.apX⟩
theorem PQ.below {w w' : World} {b tb kb k z : Nat} {p : PS} {T : List Nat} {vW : Value} {X : List Wtr} (h : PQ w b tb kb k z p T vW X) (hb : Below w.heap.size w w') : PQ w' b tb kb k z p T vW X := h.keep fun i hi => hb.block i (h.flt i hi)
/-- What its two predicates read. -/
theorem PQ.read {w : World} {b tb kb k z c : Nat} {p : PS} {T : List Nat} {vW : Value} {X : List Wtr} (h : PQ w b tb kb k z p T vW X) (hc : w.cell? ⟨c, 0, none⟩ = some (.pointer (some ⟨b, 0, none⟩))) : ∃ D, PRead w c b kb k p.known p.B D X := by
  obtain ⟨D, hD⟩ := h.kn
  exact ⟨D, hc, h.cn, hD, fun x hx => ⟨h.sets x hx, (h.seeds x hx).1, (h.seeds x hx).2.1⟩⟩
theorem sift_map {k : Nat} {kn : Nat → Bool} (X : List Wtr) : (X.filter fun x => !(lfn k kn x == 0)).map Wtr.d = sift (setL k) kn (X.map Wtr.d) := by
  unfold sift
  rw [List.filter_map]
  rfl
/-- Those of which none is left wait no more. -/
theorem PQ.siftd {w w1 : World} {b tb kb k z : Nat} {p : PS} {T : List Nat} {vW v1 : Value} {X : List Wtr} (h : PQ w b tb kb k z p T vW X) (hk : Kept (fun i => vW.ownBlock = some i) w w1)
    (ho : w1.ownsRow 0 138 2 v1 (X.filter fun x => !(lfn k p.known x == 0)).length (wC (X.filter fun x => !(lfn k p.known x == 0)))) (he : v1.ownBlock = vW.ownBlock) :
    PQ (w1.setCell ⟨b, 4, none⟩ v1) b tb kb k z ⟨p.known, p.B, sift (setL k) p.known p.L⟩ T v1 (X.filter fun x => !(lfn k p.known x == 0)) := by
  have hw : ∀ i, i ≠ b → PF b tb kb vW X i → vW.ownBlock ≠ some i → (w1.setCell ⟨b, 4, none⟩ v1).heap[i]? = w.heap[i]? := fun i hi hp hn =>
    (Below.heap_setCell w1 ⟨b, 4, none⟩ v1 i hi).trans (hk.block i (h.flt i hp) hn)
  have hnb : vW.ownBlock ≠ some b := fun e => (h.apW b e).1 rfl
  have hb1 : w1.heap[b]? = w.heap[b]? := hk.block b (h.flt b (Or.inl rfl)) hnb
  have hc : ∀ i, w1.cell? ⟨b, i, none⟩ = w.cell? ⟨b, i, none⟩ := fun i => World.cell?_of_block (w := w) hb1
  have hf : ∀ i, w1.frozen? ⟨b, i, none⟩ = w.frozen? ⟨b, i, none⟩ := fun i => World.frozen?_of_block (w := w) hb1
  obtain ⟨Dt, ht⟩ := h.tk
  obtain ⟨Dk, hkn⟩ := h.kn
  have hsub : ∀ x ∈ (X.filter fun x => !(lfn k p.known x == 0)), x ∈ X := fun x hx => (List.mem_filter.1 hx).1
  have hsl : (sift (setL k) p.known p.L).length ≤ p.L.length := sift_len _
  refine ⟨?_, ?_, ?_, ?_, ?_, ?_, ⟨Dt, ht.of_block (hw tb h.nbt.symm (Or.inr (Or.inl rfl)) (fun e => (h.apW tb e).2.1 rfl))⟩, ⟨Dk, hkn.of_block (hw kb h.nbk.symm (Or.inr (Or.inr (Or.inl rfl))) (fun e => (h.apW kb e).2.2 rfl))⟩, own_set ho (by rw [he]; exact hnb), ?_, fun x hx => ?_, ⟨fun d hd => h.good.1 d (mem_sift.1 hd).1, h.good.2⟩, ⟨Nat.le_trans hsl h.few.1, h.few.2⟩, h.lt, h.nk, h.nz, h.nbt, h.nbk, h.ntk, fun i e => h.apW i (he ▸ e), fun x hx => ?_⟩
  · rw [cell_set_off (by decide), hc]; exact h.ck
  · rw [cell_set_off (by decide), hc]; exact h.cz
  · rw [cell_set_off (by decide), hc]; exact h.ct
  · rw [cell_set_off (by decide), hc]; exact h.cn
  · exact World.cell?_setCell_same _ _ _ ((hc 4).trans h.cw)
  · rw [frozen_set, hf]; exact h.cf
  · rw [sift_map, h.xs]
  · have hx' := hsub x hx
    exact (h.sets x hx').of_block (hw x.g (h.apX x hx').1 (Or.inr (Or.inr (Or.inr (Or.inr ⟨x, hx', rfl⟩)))) (h.apX x hx').2.2.2)
  · rw [he]; exact h.apX x (hsub x hx)
/-- A block has come to be known. -/
theorem PQ.tell {w w1 : World} {b tb kb k z x n : Nat} {p : PS} {T : List Nat} {vW : Value} {X : List Wtr} {D : DataW Unit} {s : ByteArray} (h : PQ w b tb kb k z p T vW X) (hg : w.grownBy w1 (some kb)) (hM : MKn w kb k p.known p.B D) (hx : p.known x = false) (hxk : x < k) (hs : s.size = z)
    (h' : w1.ownsMap Tryz.prog 3 blkElem kb n (D.put (.int .i64 x) (.lit (.string s.data.toList)))) : PQ w1 b tb kb k z ⟨upd p.known x true, upd p.B x s, p.L⟩ T vW X := by
  have hw : ∀ i, i ≠ kb → PF b tb kb vW X i → w1.heap[i]? = w.heap[i]? := fun i hi hp => hg.block i (h.flt i hp) (fun e => hi (Option.some.inj e))
  have hb1 := hw b h.nbk (Or.inl rfl)
  have hc : ∀ i, w1.cell? ⟨b, i, none⟩ = w.cell? ⟨b, i, none⟩ := fun i => World.cell?_of_block (w := w) hb1
  have hf : ∀ i, w1.frozen? ⟨b, i, none⟩ = w.frozen? ⟨b, i, none⟩ := fun i => World.frozen?_of_block (w := w) hb1
  obtain ⟨Dt, ht⟩ := h.tk
  refine ⟨(hc 0).trans h.ck, (hc 1).trans h.cz, (hc 2).trans h.ct, (hc 3).trans h.cn, (hc 4).trans h.cw, (hf 4).trans h.cf, ⟨Dt, ht.of_block (hw tb h.ntk (Or.inr (Or.inl rfl)))⟩, ⟨_, hM.put hx hxk h'⟩, own_blk h.row fun i e => hw i (h.apW i e).2.2 (Or.inr (Or.inr (Or.inr (Or.inl e)))), h.xs, fun y hy => (h.sets y hy).of_block (hw y.g (h.apX y hy).2.2.1 (Or.inr (Or.inr (Or.inr (Or.inr ⟨y, hy, rfl⟩))))), ⟨h.good.1, fun r hr => ?_⟩, h.few, fun r hr => ?_, h.nk, h.nz, h.nbt, h.nbk, h.ntk, h.apW, h.apX⟩
  · by_cases c : r = x
    · show (if r = x then _ else _ : ByteArray).size = z
      rw [if_pos c]; exact hs
    · show (if r = x then _ else p.B r : ByteArray).size = z
      rw [if_neg c]
      exact h.good.2 r (by have hr' : (if r = x then true else p.known r) = true := hr; rw [if_neg c] at hr'; exact hr')
  · by_cases c : r = x
    · rw [c]; exact hxk
    · exact h.lt r (by have hr' : (if r = x then true else p.known r) = true := hr; rw [if_neg c] at hr'; exact hr')
end Go.Proofs.YtjgifjkdgoijmaaGreat

namespace Go.Proofs.YtjgifjkdgoijmaaGreat
open Go.Shelf Go.RowKit
set_option linter.unusedVariables false
set_option maxRecDepth 100000

def renClone : Go.Shelf.Ren := ⟨fun | 316 => 61 | n => n, fun | 9 => 9 | 3 => 3 | 4 => 4 | 37 => 86 | 0 => 0 | 127 => 140 | 5 => 5 | n => n, fun | n => n⟩
theorem laysClone0 : Go.Proofs.Lays.n316 Tryz.prog renClone := by constructor <;> (intros; kernel_rfl)
theorem laysClone : Go.Proofs.LaysM.n316 Tryz.prog renClone := by constructor <;> first | exact laysClone0 | (intros; kernel_rfl)
theorem stringslite_Clone (s : ByteArray) (w : World) (hlim : s.size ≤ 281474976710656) :
    Calls Tryz.prog 61 #[.string s] w fun e w' => e = .returned (.string s) ∧ Below w.heap.size w w' :=
  Any.stringslite_Clone laysClone s w hlim
theorem strings_Clone (s : ByteArray) (w : World) (hlim : s.size ≤ 281474976710656) :
    Calls Tryz.prog 37 #[.string s] w fun e w' => e = .returned (.string s) ∧ Below w.heap.size w w' := by
  go_enter Tryz.func37, Tryz.ntmps37
  go_wp2_with fail
  refine (stringslite_Clone _ _ hlim).mono ?_
  rintro e w1 ⟨rfl, hb⟩
  go_wp2
  go_ret
  exact ⟨rfl, hb⟩
end Go.Proofs.YtjgifjkdgoijmaaGreat

namespace Go.Proofs.YtjgifjkdgoijmaaGreat
open Go.Shelf Go.RowKit
set_option linter.unusedVariables false
set_option maxRecDepth 100000

def renSort : Go.Shelf.Ren := ⟨fun | 125 => 93 | 128 => 107 | 129 => 108 | 189 => 105 | 215 => 128 | 216 => 120 | 257 => 113 | 294 => 114 | 295 => 115 | 296 => 116 | 297 => 117 | 298 => 118 | 299 => 119 | 300 => 121 | 301 => 122 | 328 => 123 | 329 => 124 | 330 => 125 | 331 => 126 | 332 => 127 | 343 => 129 | n => n,
  fun | 0 => 0 | 3 => 3 | 4 => 4 | 5 => 5 | 9 => 9 | 28 => 22 | 46 => 116 | 51 => 145 | 53 => 148 | 131 => 176 | 182 => 171 | 183 => 172 | 218 => 178 | 222 => 182 | 228 => 184 | 229 => 185 | n => n, fun | n => n⟩
theorem laysSort : Go.Proofs.Lays.n189 Tryz.prog renSort := by constructor <;> (intros; kernel_rfl)

theorem sort_same {l l' : List Nat} (hp : l.Perm l') (hs : l'.Pairwise (· < ·)) : (l.map fun r : Nat => (r : Int)).mergeSort (fun x y => decide (x ≤ y)) = l'.map fun r : Nat => (r : Int) := by
  refine List.Perm.eq_of_pairwise (le := fun x y : Int => x ≤ y) (fun a b _ _ h1 h2 => by omega) ?_ ?_ ((List.mergeSort_perm _ _).trans (hp.map _))
  · exact (List.pairwise_mergeSort (le := fun x y : Int => decide (x ≤ y)) (fun a b c h1 h2 => by simp at h1 h2 ⊢; omega) (fun a b => by simp; omega) _).imp (fun h => by simpa using h)
  · exact List.pairwise_map.2 (hs.imp (fun h => by omega))
theorem sort_ok {w : World} (B : Nat) {v : Value} {l l' : List Nat} (h : w.ownsRow B 3 1 v l.length (toV l)) (hl : l.length ≤ 16) (hp : l.Perm l') (hs : l'.Pairwise (· < ·)) :
    Calls Tryz.prog 105 #[v] w fun e w' => e = .returned (.tuple #[]) ∧ w'.ownsRow B 3 1 v l'.length (toV l') ∧ w.grownBy w' v.ownBlock := by
  have hle := hp.length_eq
  rcases Nat.eq_zero_or_pos l.length with h0 | h0
  · have e1 : l = [] := List.eq_nil_of_length_eq_zero h0
    have e2 : l' = [] := List.eq_nil_of_length_eq_zero (by omega)
    subst e1 e2
    have hv : ∃ a cap, v = .slice a 0 cap := by
      rcases h.2 with ⟨hv, _⟩ | ⟨g, cap, _, hv, _⟩
      · exact ⟨_, _, hv⟩
      · exact ⟨_, _, hv⟩
    obtain ⟨a, cap, rfl⟩ := hv
    refine (Any.slices_Sort_int_none laysSort a cap w).mono ?_
    rintro e w' ⟨rfl, rfl⟩
    exact ⟨rfl, h, ⟨rfl, rfl, rfl, Nat.le_refl _, fun _ _ _ => rfl⟩⟩
  · have h' := h
    rcases h'.2 with ⟨_, hz⟩ | ⟨g, cap, cur, rfl, hB, hb, h1, h2, h3, h4⟩
    · omega
    · have ht : cur.toList.take (l.map fun r : Nat => (r : Int)).length = (l.map fun r : Nat => (r : Int)).map (Value.int .i64) := by
        rw [List.length_map]
        rw [Nat.mul_one] at h4
        rw [h4]; unfold toV; rw [List.map_map]; rfl
      have hgl := (h.lt g rfl).2
      have hso := Any.slices_Sort_int laysSort g 0 cap (l.map fun r : Nat => (r : Int)) w (holds_of_blockI hb ht) hgl (by rw [List.length_map]; omega)
      rw [sort_same hp hs, List.length_map] at hso
      refine hso.mono ?_
      rintro e w' ⟨rfl, n, os, rfl⟩
      refine ⟨rfl, ?_, grownBy_sortedI _⟩
      have h9 := ownsRow_sortedI (n := n) (os := os) (ss := l.map fun r : Nat => (r : Int)) (ts := l'.map fun r : Nat => (r : Int)) (by simp [hle]) hB hb (by simpa using h1) h2 h3
      rw [List.length_map, List.map_map, hle] at h9
      rw [hle]
      exact h9
end Go.Proofs.YtjgifjkdgoijmaaGreat
