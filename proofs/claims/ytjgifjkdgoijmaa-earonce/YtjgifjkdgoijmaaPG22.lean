/-
  Lemmas for the law above, joined into one text (PRest, PSt). No statement is proved here.
-/
import Derived.Test.YtjgifjkdgoijmaaPPWait
import Derived.Test.YtjgifjkdgoijmaaPG21
namespace Go.Proofs.Ytjgifjkdgoijmaa
open Go.RowKit Go.Maps
set_option linter.unusedVariables false
set_option maxRecDepth 100000

theorem outB_next {B : Nat → ByteArray} {x : Nat} {l : List Nat} {b : ByteArray} {j : Nat} (h : j < l.length) : outB B x (l.take (j + 1)) b = if l.getD j 0 = x then outB B x (l.take j) b else xorB (outB B x (l.take j) b) (B (l.getD j 0)) := by
  have e : l.take (j + 1) = l.take j ++ [l.getD j 0] := by rw [List.take_add_one]; simp [List.getD, h]
  rw [e]
  unfold outB
  rw [List.foldl_append]
  rfl

set_option maxHeartbeats 2000000 in
theorem rest_ok (b kb k seed x z : Nat) (kn : Nat → Bool) (B : Nat → ByteArray) (D : DataW Unit) (vo : Value) (data : ByteArray) (w : World) (hk : 1 ≤ k) (hk2 : k ≤ 16) (h1 : 1 ≤ seed) (h2 : seed ≤ 10000) (hz : z ≤ 8)
    (hc : w.cell? ⟨b, 3, none⟩ = some (.map (some kb))) (hM : MKn w kb k kn B D) (ho : Lst w vo (setL k seed)) (hx : lft (setL k) kn (seed, data) = [x]) (hd : data.size = z) (hB : ∀ r, kn r = true → (B r).size = z) :
    Calls Try.prog 74 #[.pointer (some ⟨b, 0, none⟩), .agg #[vo, .string data]] w fun e w' => e = .returned (.tuple #[.string (outB B x (setL k seed) data), .nilIface]) ∧ Below w.heap.size w w' := by
  have hb0 : Below w.heap.size w (w.alloc (.cells #[vo, .string data] 108)) := (Below.refl _ _).alloc (Nat.le_refl _) _
  have HB0 := hide hb0
  have hl : 0 < (setL k seed).length ∧ (setL k seed).length ≤ 16 := ⟨(setL_len hk hk2 h1 h2).1, Nat.le_trans (setL_len hk hk2 h1 h2).2 hk2⟩
  have HSL : Hid (∀ r ∈ setL k seed, r < k) := fun r hr => setL_lt hk h1 hr
  have HKn : Hid (∀ r ∈ setL k seed, kn r = true ↔ r ≠ x) := fun r hr => by
    have hxm : x ∈ lft (setL k) kn (seed, data) := by rw [hx]; simp
    constructor
    · rintro h rfl
      rw [(mem_lft.1 hxm).2] at h; cases h
    · intro hne
      cases e : kn r with
      | true => rfl
      | false =>
        have : r ∈ lft (setL k) kn (seed, data) := mem_lft.2 ⟨hr, e⟩
        rw [hx] at this
        exact absurd (List.mem_singleton.1 this) hne
  have HC := hide hc
  have HM := hide hM
  have HBz := hide hB
  have hOz : Hid (∀ j, (outB B x ((setL k seed).take j) data).size = z) := fun j => by rw [outB_size]; exact hd
  obtain ⟨g, cap, rfl, hq1, hq2, hq3⟩ := ho
  unfold maxLen at hq2
  have HQ := hide hq3
  clear hc hM hb0 hq3 hx hB
  generalize setL k seed = l at *
  go_enter Try.func74, Try.ntmps74
  go_wp2_with fail
  go_loopw [6, 18] (fun d i wr => ∃ j : Nat, j ≤ l.length ∧ i = .int .i64 j ∧ d = .string (outB B x (l.take j) data) ∧ Below w.heap.size w wr) (fun _ i _ => l.length - (intOf i).toNat)
  case atStart => exact ⟨0, Nat.zero_le _, rfl, rfl, HB0.out⟩
  case round =>
    obtain ⟨j, hj, rfl, rfl, hb⟩ := hrel
    have HB := hide hb
    have hbs := hb.size
    by_cases hlt : j < l.length
    · have hcj := cell_below hb (HQ.out j hlt)
      have hck := cell_below hb HC.out
      have HMj := hide (HM.out.below hb)
      have HO := hide (outB_next (B := B) (x := x) (b := data) hlt)
      have hrm := getD_mem hlt
      have hoz := hOz.out j
      have hr16 := HSL.out _ hrm
      have hkr := HKn.out _ hrm
      simp only [Nat.zero_add] at hcj
      clear hb hrm
      generalize hrr : l.getD j 0 = r at *
      generalize hob : outB B x (l.take j) data = ob at *
      clear hrr hob
      by_cases hrx : r = x
      · have hkf : kn r = false := by
          cases e : kn r with
          | false => rfl
          | true => exact absurd hrx (hkr.1 e)
        rw [Hid, if_pos hrx] at HO
        have HO' := hide HO
        have HKF := hide hkf
        clear HO hkr hrx
        go_wp2_with (first | (at_lookup; refine wpList_lookup_blk rfl _ _ rfl kb k r kn B D rfl rfl HMj.out (by omega) ?_; intro s hs; rw [HKF.out]) | fail)
        exact ⟨⟨j + 1, by omega, by simp, by rw [HO'.out], HB.out.alloc hbs _⟩, by simp [intOf]; omega⟩
      · have hkt : kn r = true := hkr.2 hrx
        rw [Hid, if_neg hrx] at HO
        have HO' := hide HO
        have HKT := hide hkt
        have X := hide (fun w1 => xor_ok ob (B r) w1 (by omega) (by rw [hoz]; exact HBz.out r hkt))
        clear HO hkr hrx hkt
        go_wp2_with (first | (at_lookup; refine wpList_lookup_blk rfl _ _ rfl kb k r kn B D rfl rfl HMj.out (by omega) ?_; intro s hs; rw [HKT.out, hs HKT.out]) | fail)
        refine (X.out _).mono ?_
        rintro e w1 ⟨rfl, hb1⟩
        have HB1 := hide (HB.out.alloc hbs (.cells #[.string (B r)] 132))
        have HB2 := hide (below_two HB1.out hb1)
        clear hb1 hcj hck
        generalize hxo : xorB ob (B r) = xo at *
        clear hxo
        go_wp2
        exact ⟨⟨j + 1, by omega, by simp, by rw [HO'.out], HB2.out⟩, by simp [intOf]; omega⟩
    · obtain rfl : j = l.length := by omega
      rw [List.take_length] at *
      go_wp2
      go_ret2
      exact ⟨rfl, HB.out⟩
end Go.Proofs.Ytjgifjkdgoijmaa

namespace Go.Proofs.Ytjgifjkdgoijmaa
open Go.RowKit Go.Maps
set_option linter.unusedVariables false
set_option maxRecDepth 100000

theorem MSet.of_block {w w' : World} {b : Nat} {l : List Nat} {D : DataW Unit} (h : MSet w b l D) (hb : w'.heap[b]? = w.heap[b]?) : MSet w' b l D := ⟨ownsMap_block h.1 hb, h.2⟩
theorem Lst.of_block {w w' : World} {g n c : Nat} {l : List Nat} (h : Lst w (.slice (some ⟨g, 0, none⟩) n c) l) (hb : w'.heap[g]? = w.heap[g]?) : Lst w' (.slice (some ⟨g, 0, none⟩) n c) l := by
  obtain ⟨g', cap, hv, h1, h2, h3⟩ := h
  have e : g = g' := by injection hv with e; injection e with e; injection e with e
  subst e
  exact ⟨g, cap, hv, h1, h2, fun i hi => (World.cell?_of_block (w := w) hb).trans (h3 i hi)⟩
structure PQ (w : World) (b tb kb k z : Nat) (p : PS) (T : List Nat) (vW : Value) (X : List Wtr) : Prop where
  ck : w.cell? ⟨b, 0, none⟩ = some (.int .i64 k)
  cz : w.cell? ⟨b, 1, none⟩ = some (.int .i64 z)
  ct : w.cell? ⟨b, 2, none⟩ = some (.map (some tb))
  cn : w.cell? ⟨b, 3, none⟩ = some (.map (some kb))
  cw : w.cell? ⟨b, 4, none⟩ = some vW
  cf : w.frozen? ⟨b, 4, none⟩ = false
  tk : ∃ D, MSet w tb T D
  kn : ∃ D, MKn w kb k p.known p.B D
  row : w.ownsRow 0 108 2 vW X.length (wC X)
  xs : X.map Wtr.d = p.L
  sets : ∀ x ∈ X, Lst w (.slice (some ⟨x.g, 0, none⟩) x.n x.c) (setL k x.d.1)
  good : Good z p
  few : p.L.length ≤ T.length ∧ T.length ≤ 60
  lt : ∀ r, p.known r = true → r < k
  nk : 1 ≤ k ∧ k ≤ 16
  nz : 1 ≤ z ∧ z ≤ 8
  nbt : b ≠ tb
  nbk : b ≠ kb
  ntk : tb ≠ kb
  apW : ∀ i, vW.ownBlock = some i → i ≠ b ∧ i ≠ tb ∧ i ≠ kb
  apX : ∀ x ∈ X, x.g ≠ b ∧ x.g ≠ tb ∧ x.g ≠ kb ∧ vW.ownBlock ≠ some x.g
/-- Its blocks. -/
def PF (b tb kb : Nat) (vW : Value) (X : List Wtr) (i : Nat) : Prop := i = b ∨ i = tb ∨ i = kb ∨ vW.ownBlock = some i ∨ ∃ x ∈ X, i = x.g
theorem PQ.seeds {w : World} {b tb kb k z : Nat} {p : PS} {T : List Nat} {vW : Value} {X : List Wtr} (h : PQ w b tb kb k z p T vW X) : ∀ x ∈ X, 1 ≤ x.d.1 ∧ x.d.1 ≤ 10000 ∧ x.d.2.size = z := fun x hx => h.good.1 x.d (by rw [← h.xs]; exact List.mem_map_of_mem hx)
theorem PQ.len {w : World} {b tb kb k z : Nat} {p : PS} {T : List Nat} {vW : Value} {X : List Wtr} (h : PQ w b tb kb k z p T vW X) : X.length = p.L.length := by rw [← h.xs, List.length_map]
theorem PQ.flt {w : World} {b tb kb k z : Nat} {p : PS} {T : List Nat} {vW : Value} {X : List Wtr} (h : PQ w b tb kb k z p T vW X) : ∀ i, PF b tb kb vW X i → i < w.heap.size := fun i hi => by
  rcases hi with rfl | rfl | rfl | e | ⟨x, hx, rfl⟩
  · exact cell_lt h.ck
  · obtain ⟨D, hD⟩ := h.tk
    exact hD.1.lt
  · obtain ⟨D, hD⟩ := h.kn
    exact hD.lt
  · exact (h.row.lt i e).2
  · obtain ⟨g, cap, hv, h1, h2, h3⟩ := h.sets x hx
    have e : x.g = g := by injection hv with e; injection e with e; injection e with e
    rw [e]
    exact cell_lt (h3 0 (setL_len h.nk.1 h.nk.2 (h.seeds x hx).1 (h.seeds x hx).2.1).1)
theorem PQ.keep {w w' : World} {b tb kb k z : Nat} {p : PS} {T : List Nat} {vW : Value} {X : List Wtr} (h : PQ w b tb kb k z p T vW X) (hb : ∀ i, PF b tb kb vW X i → w'.heap[i]? = w.heap[i]?) : PQ w' b tb kb k z p T vW X := by
  have hbb := hb b (Or.inl rfl)
  have hc : ∀ i, w'.cell? ⟨b, i, none⟩ = w.cell? ⟨b, i, none⟩ := fun i => World.cell?_of_block (w := w) hbb
  have hf : ∀ i, w'.frozen? ⟨b, i, none⟩ = w.frozen? ⟨b, i, none⟩ := fun i => World.frozen?_of_block (w := w) hbb
  obtain ⟨Dt, ht⟩ := h.tk
  obtain ⟨Dk, hk⟩ := h.kn
  exact ⟨(hc 0).trans h.ck, (hc 1).trans h.cz, (hc 2).trans h.ct, (hc 3).trans h.cn, (hc 4).trans h.cw, (hf 4).trans h.cf, ⟨Dt, ht.of_block (hb tb (Or.inr (Or.inl rfl)))⟩, ⟨Dk, hk.of_block (hb kb (Or.inr (Or.inr (Or.inl rfl))))⟩,
    own_blk h.row fun i e => hb i (Or.inr (Or.inr (Or.inr (Or.inl e)))), h.xs, fun x hx => (h.sets x hx).of_block (hb x.g (Or.inr (Or.inr (Or.inr (Or.inr ⟨x, hx, rfl⟩))))), h.good, h.few, h.lt, h.nk, h.nz, h.nbt, h.nbk, h.ntk, h.apW, h.apX⟩
theorem PQ.below {w w' : World} {b tb kb k z : Nat} {p : PS} {T : List Nat} {vW : Value} {X : List Wtr} (h : PQ w b tb kb k z p T vW X) (hb : Below w.heap.size w w') : PQ w' b tb kb k z p T vW X := h.keep fun i hi => hb.block i (h.flt i hi)
/-- What its two predicates read. -/
theorem PQ.read {w : World} {b tb kb k z c : Nat} {p : PS} {T : List Nat} {vW : Value} {X : List Wtr} (h : PQ w b tb kb k z p T vW X) (hc : w.cell? ⟨c, 0, none⟩ = some (.pointer (some ⟨b, 0, none⟩))) : ∃ D, PRead w c b kb k p.known p.B D X := by
  obtain ⟨D, hD⟩ := h.kn
  exact ⟨D, hc, h.cn, hD, fun x hx => ⟨h.sets x hx, (h.seeds x hx).1, (h.seeds x hx).2.1⟩⟩
theorem sift_map {k : Nat} {kn : Nat → Bool} (X : List Wtr) : (X.filter fun x => !(lfn k kn x == 0)).map Wtr.d = sift (setL k) kn (X.map Wtr.d) := by
  unfold sift
  rw [List.filter_map]
  rfl
/-- Those of which none is left wait no more. -/
theorem PQ.siftd {w w1 : World} {b tb kb k z : Nat} {p : PS} {T : List Nat} {vW v1 : Value} {X : List Wtr} (h : PQ w b tb kb k z p T vW X) (hk : Kept (fun i => vW.ownBlock = some i) w w1)
    (ho : w1.ownsRow 0 108 2 v1 (X.filter fun x => !(lfn k p.known x == 0)).length (wC (X.filter fun x => !(lfn k p.known x == 0)))) (he : v1.ownBlock = vW.ownBlock) :
    PQ (w1.setCell ⟨b, 4, none⟩ v1) b tb kb k z ⟨p.known, p.B, sift (setL k) p.known p.L⟩ T v1 (X.filter fun x => !(lfn k p.known x == 0)) := by
  have hw : ∀ i, i ≠ b → PF b tb kb vW X i → vW.ownBlock ≠ some i → (w1.setCell ⟨b, 4, none⟩ v1).heap[i]? = w.heap[i]? := fun i hi hp hn =>
    (Below.heap_setCell w1 ⟨b, 4, none⟩ v1 i hi).trans (hk.block i (h.flt i hp) hn)
  have hnb : vW.ownBlock ≠ some b := fun e => (h.apW b e).1 rfl
  have hb1 : w1.heap[b]? = w.heap[b]? := hk.block b (h.flt b (Or.inl rfl)) hnb
  have hc : ∀ i, w1.cell? ⟨b, i, none⟩ = w.cell? ⟨b, i, none⟩ := fun i => World.cell?_of_block (w := w) hb1
  have hf : ∀ i, w1.frozen? ⟨b, i, none⟩ = w.frozen? ⟨b, i, none⟩ := fun i => World.frozen?_of_block (w := w) hb1
  obtain ⟨Dt, ht⟩ := h.tk
  obtain ⟨Dk, hkn⟩ := h.kn
  have hsub : ∀ x ∈ (X.filter fun x => !(lfn k p.known x == 0)), x ∈ X := fun x hx => (List.mem_filter.1 hx).1
  have hsl : (sift (setL k) p.known p.L).length ≤ p.L.length := sift_len _
  refine ⟨?_, ?_, ?_, ?_, ?_, ?_, ⟨Dt, ht.of_block (hw tb h.nbt.symm (Or.inr (Or.inl rfl)) (fun e => (h.apW tb e).2.1 rfl))⟩, ⟨Dk, hkn.of_block (hw kb h.nbk.symm (Or.inr (Or.inr (Or.inl rfl))) (fun e => (h.apW kb e).2.2 rfl))⟩, own_set ho (by rw [he]; exact hnb), ?_, fun x hx => ?_, ⟨fun d hd => h.good.1 d (mem_sift.1 hd).1, h.good.2⟩, ⟨Nat.le_trans hsl h.few.1, h.few.2⟩, h.lt, h.nk, h.nz, h.nbt, h.nbk, h.ntk, fun i e => h.apW i (he ▸ e), fun x hx => ?_⟩
  · rw [cell_set_off (by decide), hc]; exact h.ck
  · rw [cell_set_off (by decide), hc]; exact h.cz
  · rw [cell_set_off (by decide), hc]; exact h.ct
  · rw [cell_set_off (by decide), hc]; exact h.cn
  · exact World.cell?_setCell_same _ _ _ ((hc 4).trans h.cw)
  · rw [frozen_set, hf]; exact h.cf
  · rw [sift_map, h.xs]
  · have hx' := hsub x hx
    exact (h.sets x hx').of_block (hw x.g (h.apX x hx').1 (Or.inr (Or.inr (Or.inr (Or.inr ⟨x, hx', rfl⟩)))) (h.apX x hx').2.2.2)
  · rw [he]; exact h.apX x (hsub x hx)
/-- A block has come to be known. -/
theorem PQ.tell {w w1 : World} {b tb kb k z x n : Nat} {p : PS} {T : List Nat} {vW : Value} {X : List Wtr} {D : DataW Unit} {s : ByteArray} (h : PQ w b tb kb k z p T vW X) (hg : w.grownBy w1 (some kb)) (hM : MKn w kb k p.known p.B D) (hx : p.known x = false) (hxk : x < k) (hs : s.size = z)
    (h' : w1.ownsMap Try.prog 3 blkElem kb n (D.put (.int .i64 x) (.lit (.string s.data.toList)))) : PQ w1 b tb kb k z ⟨upd p.known x true, upd p.B x s, p.L⟩ T vW X := by
  have hw : ∀ i, i ≠ kb → PF b tb kb vW X i → w1.heap[i]? = w.heap[i]? := fun i hi hp => hg.block i (h.flt i hp) (fun e => hi (Option.some.inj e))
  have hb1 := hw b h.nbk (Or.inl rfl)
  have hc : ∀ i, w1.cell? ⟨b, i, none⟩ = w.cell? ⟨b, i, none⟩ := fun i => World.cell?_of_block (w := w) hb1
  have hf : ∀ i, w1.frozen? ⟨b, i, none⟩ = w.frozen? ⟨b, i, none⟩ := fun i => World.frozen?_of_block (w := w) hb1
  obtain ⟨Dt, ht⟩ := h.tk
  refine ⟨(hc 0).trans h.ck, (hc 1).trans h.cz, (hc 2).trans h.ct, (hc 3).trans h.cn, (hc 4).trans h.cw, (hf 4).trans h.cf, ⟨Dt, ht.of_block (hw tb h.ntk (Or.inr (Or.inl rfl)))⟩, ⟨_, hM.put hx hxk h'⟩, own_blk h.row fun i e => hw i (h.apW i e).2.2 (Or.inr (Or.inr (Or.inr (Or.inl e)))), h.xs, fun y hy => (h.sets y hy).of_block (hw y.g (h.apX y hy).2.2.1 (Or.inr (Or.inr (Or.inr (Or.inr ⟨y, hy, rfl⟩))))), ⟨h.good.1, fun r hr => ?_⟩, h.few, fun r hr => ?_, h.nk, h.nz, h.nbt, h.nbk, h.ntk, h.apW, h.apX⟩
  · by_cases c : r = x
    · show (if r = x then _ else _ : ByteArray).size = z
      rw [if_pos c]; exact hs
    · show (if r = x then _ else p.B r : ByteArray).size = z
      rw [if_neg c]
      exact h.good.2 r (by have hr' : (if r = x then true else p.known r) = true := hr; rw [if_neg c] at hr'; exact hr')
  · by_cases c : r = x
    · rw [c]; exact hxk
    · exact h.lt r (by have hr' : (if r = x then true else p.known r) = true := hr; rw [if_neg c] at hr'; exact hr')
end Go.Proofs.Ytjgifjkdgoijmaa
