/-
  Lemmas for the law above, joined into one text (PSort, Xor, PRest, PSt, PPeel). No statement is proved here.
-/
import Derived.Shelf.Sort.Plain
import Derived.Shelf.Slices.In.SortNone
import Derived.Sort.OwnSortedInts
import Derived.Shelf.LaysM
import Derived.Shelf.Strconv.Clone
import Derived.Test.YtopibfbpecjgbaaDoorZRef
import Derived.Test.YtopibfbpecjgbaaDoorZBlk
import Derived.Test.YtopibfbpecjgbaaDoorZWt
import Derived.Deep.RegionHeld3
import Derived.Deep.RegionWith
import Derived.Deep.DeepCutAuto
import Derived.Deep.CutRange
import Derived.Deep.LoopGhost
namespace Go.Proofs.YtopibfbpecjgbaaDoor
open Go.Shelf Go.RowKit
set_option linter.unusedVariables false
set_option maxRecDepth 100000

def renSort : Go.Shelf.Ren := ⟨fun | 125 => 59 | 128 => 76 | 129 => 77 | 189 => 44 | 215 => 87 | 216 => 73 | 257 => 58 | 294 => 67 | 295 => 68 | 296 => 69 | 297 => 70 | 298 => 71 | 299 => 72 | 300 => 74 | 301 => 75 | 328 => 82 | 329 => 83 | 330 => 84 | 331 => 85 | 332 => 86 | 343 => 88 | n => n,
  fun | 0 => 0 | 3 => 3 | 4 => 4 | 5 => 5 | 9 => 9 | 28 => 23 | 46 => 106 | 51 => 131 | 53 => 133 | 131 => 128 | 182 => 123 | 183 => 124 | 218 => 149 | 222 => 153 | 228 => 155 | 229 => 156 | n => n, fun | n => n⟩
theorem laysSort : Go.Proofs.Lays.n189 Tryd.prog renSort := by constructor <;> (intros; kernel_rfl)

theorem sort_same {l l' : List Nat} (hp : l.Perm l') (hs : l'.Pairwise (· < ·)) : (l.map fun r : Nat => (r : Int)).mergeSort (fun x y => decide (x ≤ y)) = l'.map fun r : Nat => (r : Int) := by
  refine List.Perm.eq_of_pairwise (le := fun x y : Int => x ≤ y) (fun a b _ _ h1 h2 => by omega) ?_ ?_ ((List.mergeSort_perm _ _).trans (hp.map _))
  · exact (List.pairwise_mergeSort (le := fun x y : Int => decide (x ≤ y)) (fun a b c h1 h2 => by simp at h1 h2 ⊢; omega) (fun a b => by simp; omega) _).imp (fun h => by simpa using h)
  · exact List.pairwise_map.2 (hs.imp (fun h => by omega))
theorem sort_ok {w : World} (B : Nat) {v : Value} {l l' : List Nat} (h : w.ownsRow B 3 1 v l.length (toV l)) (hl : l.length ≤ 16) (hp : l.Perm l') (hs : l'.Pairwise (· < ·)) :
    Calls Tryd.prog 44 #[v] w fun e w' => e = .returned (.tuple #[]) ∧ w'.ownsRow B 3 1 v l'.length (toV l') ∧ w.grownBy w' v.ownBlock := by
  have hle := hp.length_eq
  rcases Nat.eq_zero_or_pos l.length with h0 | h0
  · have e1 : l = [] := List.eq_nil_of_length_eq_zero h0
    have e2 : l' = [] := List.eq_nil_of_length_eq_zero (by omega)
    subst e1 e2
    have hv : ∃ a cap, v = .slice a 0 cap := by
      rcases h.2 with ⟨hv, _⟩ | ⟨g, cap, _, hv, _⟩
      · exact ⟨_, _, hv⟩
      · exact ⟨_, _, hv⟩
    obtain ⟨a, cap, rfl⟩ := hv
    refine (Any.slices_Sort_int_none laysSort a cap w).mono ?_
    rintro e w' ⟨rfl, rfl⟩
    exact ⟨rfl, h, ⟨rfl, rfl, rfl, Nat.le_refl _, fun _ _ _ => rfl⟩⟩
  · have h' := h
    rcases h'.2 with ⟨_, hz⟩ | ⟨g, cap, cur, rfl, hB, hb, h1, h2, h3, h4⟩
    · omega
    · have ht : cur.toList.take (l.map fun r : Nat => (r : Int)).length = (l.map fun r : Nat => (r : Int)).map (Value.int .i64) := by
        rw [List.length_map]
        rw [Nat.mul_one] at h4
        rw [h4]; unfold toV; rw [List.map_map]; rfl
      have hgl := (h.lt g rfl).2
      have hso := Any.slices_Sort_int laysSort g 0 cap (l.map fun r : Nat => (r : Int)) w (holds_of_blockI hb ht) hgl (by rw [List.length_map]; omega)
      rw [sort_same hp hs, List.length_map] at hso
      refine hso.mono ?_
      rintro e w' ⟨rfl, n, os, rfl⟩
      refine ⟨rfl, ?_, grownBy_sortedI _⟩
      have h9 := ownsRow_sortedI (n := n) (os := os) (ss := l.map fun r : Nat => (r : Int)) (ts := l'.map fun r : Nat => (r : Int)) (by simp [hle]) hB hb (by simpa using h1) h2 h3
      rw [List.length_map, List.map_map, hle] at h9
      rw [hle]
      exact h9

def renClone : Go.Shelf.Ren := ⟨fun | 316 => 38 | n => n, fun | 9 => 9 | 3 => 3 | 4 => 4 | 37 => 95 | 0 => 0 | 127 => 101 | 5 => 5 | n => n, fun | n => n⟩
theorem laysClone0 : Go.Proofs.Lays.n316 Tryd.prog renClone := by constructor <;> (intros; kernel_rfl)
theorem laysClone : Go.Proofs.LaysM.n316 Tryd.prog renClone := by constructor <;> first | exact laysClone0 | (intros; kernel_rfl)
theorem stringslite_Clone (s : ByteArray) (w : World) (hlim : s.size ≤ 281474976710656) :
    Calls Tryd.prog 38 #[.string s] w fun e w' => e = .returned (.string s) ∧ Below w.heap.size w w' :=
  Any.stringslite_Clone laysClone s w hlim
theorem strings_Clone (s : ByteArray) (w : World) (hlim : s.size ≤ 281474976710656) :
    Calls Tryd.prog 21 #[.string s] w fun e w' => e = .returned (.string s) ∧ Below w.heap.size w w' := by
  go_enter Tryd.func21, Tryd.ntmps21
  go_wp2_with fail
  refine (stringslite_Clone _ _ hlim).mono ?_
  rintro e w1 ⟨rfl, hb⟩
  go_wp2
  go_ret
  exact ⟨rfl, hb⟩
end Go.Proofs.YtopibfbpecjgbaaDoor

namespace Go.Proofs.YtopibfbpecjgbaaDoor
open Go.RowKit
set_option linter.unusedVariables false
set_option maxRecDepth 100000

theorem xor_full (a b : ByteArray) (w : World) (ha : a.size ≤ maxLen) (hb : b.size ≤ maxLen) (h : 120 < a.size ∨ 120 < b.size) :
    Calls Tryd.prog 60 #[.string a, .string b] w fun e w' => e = .returned (.tuple #[.string ⟨#[]⟩, .iface 54 (.int .i64 4)]) ∧ w = w' := by
  unfold maxLen at ha hb
  by_cases h1 : 120 < a.size
  · go_enter Tryd.func60, Tryd.ntmps60
    go_wp2
    go_ret2
    exact ⟨rfl, rfl⟩
  · have h2 : 120 < b.size := by omega
    go_enter Tryd.func60, Tryd.ntmps60
    go_wp2
    go_ret2
    exact ⟨rfl, rfl⟩
theorem xor_shape (a b : ByteArray) (w : World) (ha : a.size ≤ 120) (hb : b.size ≤ 120) (h : a.size ≠ b.size) :
    Calls Tryd.prog 60 #[.string a, .string b] w fun e w' => e = .returned (.tuple #[.string ⟨#[]⟩, .iface 54 (.int .i64 3)]) ∧ w = w' := by
  have hne : ((a.size : Int) != (b.size : Int)) = true := by rw [bne_iff_ne]; omega
  clear h
  go_enter Tryd.func60, Tryd.ntmps60
  go_wp2
  go_ret2
  exact ⟨rfl, rfl⟩
set_option maxHeartbeats 1000000 in
theorem xor_ok (a b : ByteArray) (w : World) (ha : a.size ≤ 120) (h : b.size = a.size) :
    Calls Tryd.prog 60 #[.string a, .string b] w fun e w' => e = .returned (.tuple #[.string (xorB a b), .nilIface]) ∧ Below w.heap.size w w' := by
  have hne : ((a.size : Int) != (b.size : Int)) = false := by rw [h]; simp
  have hb : b.size ≤ 120 := by omega
  have hcv := run_bytes_of_string (P := Tryd.prog) w 9 95 5 a Tryd.underlying9 Tryd.underlying95 Tryd.underlying5
  have L := hide (lay_any w.heap.size a.size (grownCap w a.size 0 5) b (atB a) _ (by omega) h (row_new w a (grownCap w a.size 0 5) 5))
  clear h
  go_enter Tryd.func60, Tryd.ntmps60
  go_wp2_with fail
  refine (L.out).mono ?_
  rintro e w1 ⟨rfl, hr, hb1⟩
  have hbk := back_row (cap := grownCap w a.size 0 5) hr
  have hbb : Below w.heap.size w w1 := ((Below.refl _ w).drew.alloc (Nat.le_refl _) _).trans hb1
  clear hcv
  go_wp2
  go_ret2
  exact ⟨rfl, hbb⟩
end Go.Proofs.YtopibfbpecjgbaaDoor

namespace Go.Proofs.YtopibfbpecjgbaaDoor
open Go.RowKit Go.Maps
set_option linter.unusedVariables false
set_option maxRecDepth 100000

theorem outB_next {B : Nat → ByteArray} {x : Nat} {l : List Nat} {b : ByteArray} {j : Nat} (h : j < l.length) : outB B x (l.take (j + 1)) b = if l.getD j 0 = x then outB B x (l.take j) b else xorB (outB B x (l.take j) b) (B (l.getD j 0)) := by
  have e : l.take (j + 1) = l.take j ++ [l.getD j 0] := by rw [List.take_add_one]; simp [List.getD, h]
  rw [e]
  unfold outB
  rw [List.foldl_append]
  rfl

set_option maxHeartbeats 2000000 in
theorem rest_ok (b kb k seed x z : Nat) (kn : Nat → Bool) (B : Nat → ByteArray) (D : DataW Unit) (vo : Value) (data : ByteArray) (w : World) (hk : 1 ≤ k) (hk2 : k ≤ 16) (h1 : 1 ≤ seed) (h2 : seed ≤ 10000) (hz : z ≤ 8)
    (hc : w.cell? ⟨b, 3, none⟩ = some (.map (some kb))) (hM : MKn w kb k kn B D) (ho : Lst w vo (setL k seed)) (hx : lft (setL k) kn (seed, data) = [x]) (hd : data.size = z) (hB : ∀ r, kn r = true → (B r).size = z) :
    Calls Tryd.prog 45 #[.pointer (some ⟨b, 0, none⟩), .agg #[vo, .string data]] w fun e w' => e = .returned (.tuple #[.string (outB B x (setL k seed) data), .nilIface]) ∧ Below w.heap.size w w' := by
  have hb0 : Below w.heap.size w (w.alloc (.cells #[vo, .string data] 66)) := (Below.refl _ _).alloc (Nat.le_refl _) _
  have HB0 := hide hb0
  have hl : 0 < (setL k seed).length ∧ (setL k seed).length ≤ 16 := ⟨(setL_len hk hk2 h1 h2).1, Nat.le_trans (setL_len hk hk2 h1 h2).2 hk2⟩
  have HSL : Hid (∀ r ∈ setL k seed, r < k) := fun r hr => setL_lt hk h1 hr
  have HKn : Hid (∀ r ∈ setL k seed, kn r = true ↔ r ≠ x) := fun r hr => by
    have hxm : x ∈ lft (setL k) kn (seed, data) := by rw [hx]; simp
    constructor
    · rintro h rfl
      rw [(mem_lft.1 hxm).2] at h; cases h
    · intro hne
      cases e : kn r with
      | true => rfl
      | false =>
        have : r ∈ lft (setL k) kn (seed, data) := mem_lft.2 ⟨hr, e⟩
        rw [hx] at this
        exact absurd (List.mem_singleton.1 this) hne
  have HC := hide hc
  have HM := hide hM
  have HBz := hide hB
  have hOz : Hid (∀ j, (outB B x ((setL k seed).take j) data).size = z) := fun j => by rw [outB_size]; exact hd
  obtain ⟨g, cap, rfl, hq1, hq2, hq3⟩ := ho
  unfold maxLen at hq2
  have HQ := hide hq3
  clear hc hM hb0 hq3 hx hB
  generalize setL k seed = l at *
  go_enter Tryd.func45, Tryd.ntmps45
  go_wp2_with fail
  go_loopw [6, 18] (fun d i wr => ∃ j : Nat, j ≤ l.length ∧ i = .int .i64 j ∧ d = .string (outB B x (l.take j) data) ∧ Below w.heap.size w wr) (fun _ i _ => l.length - (intOf i).toNat)
  case atStart => exact ⟨0, Nat.zero_le _, rfl, rfl, HB0.out⟩
  case round =>
    obtain ⟨j, hj, rfl, rfl, hb⟩ := hrel
    have HB := hide hb
    have hbs := hb.size
    by_cases hlt : j < l.length
    · have hcj := cell_below hb (HQ.out j hlt)
      have hck := cell_below hb HC.out
      have HMj := hide (HM.out.below hb)
      have HO := hide (outB_next (B := B) (x := x) (b := data) hlt)
      have hrm := getD_mem hlt
      have hoz := hOz.out j
      have hr16 := HSL.out _ hrm
      have hkr := HKn.out _ hrm
      simp only [Nat.zero_add] at hcj
      clear hb hrm
      generalize hrr : l.getD j 0 = r at *
      generalize hob : outB B x (l.take j) data = ob at *
      clear hrr hob
      by_cases hrx : r = x
      · have hkf : kn r = false := by
          cases e : kn r with
          | false => rfl
          | true => exact absurd hrx (hkr.1 e)
        rw [Hid, if_pos hrx] at HO
        have HO' := hide HO
        have HKF := hide hkf
        clear HO hkr hrx
        go_wp2_with (first | (at_lookup; refine wpList_lookup_blk rfl _ _ rfl kb k r kn B D rfl rfl HMj.out (by omega) ?_; intro s hs; rw [HKF.out]) | fail)
        exact ⟨⟨j + 1, by omega, by simp, by rw [HO'.out], HB.out.alloc hbs _⟩, by simp [intOf]; omega⟩
      · have hkt : kn r = true := hkr.2 hrx
        rw [Hid, if_neg hrx] at HO
        have HO' := hide HO
        have HKT := hide hkt
        have X := hide (fun w1 => xor_ok ob (B r) w1 (by omega) (by rw [hoz]; exact HBz.out r hkt))
        clear HO hkr hrx hkt
        go_wp2_with (first | (at_lookup; refine wpList_lookup_blk rfl _ _ rfl kb k r kn B D rfl rfl HMj.out (by omega) ?_; intro s hs; rw [HKT.out, hs HKT.out]) | fail)
        refine (X.out _).mono ?_
        rintro e w1 ⟨rfl, hb1⟩
        have HB1 := hide (HB.out.alloc hbs (.cells #[.string (B r)] 69))
        have HB2 := hide (below_two HB1.out hb1)
        clear hb1 hcj hck
        generalize hxo : xorB ob (B r) = xo at *
        clear hxo
        go_wp2
        exact ⟨⟨j + 1, by omega, by simp, by rw [HO'.out], HB2.out⟩, by simp [intOf]; omega⟩
    · obtain rfl : j = l.length := by omega
      rw [List.take_length] at *
      go_wp2
      go_ret2
      exact ⟨rfl, HB.out⟩
end Go.Proofs.YtopibfbpecjgbaaDoor

namespace Go.Proofs.YtopibfbpecjgbaaDoor
open Go.RowKit Go.Maps
set_option linter.unusedVariables false
set_option maxRecDepth 100000

theorem MSet.of_block {w w' : World} {b : Nat} {l : List Nat} {D : DataW Unit} (h : MSet w b l D) (hb : w'.heap[b]? = w.heap[b]?) : MSet w' b l D := ⟨ownsMap_block h.1 hb, h.2⟩
theorem Lst.of_block {w w' : World} {g n c : Nat} {l : List Nat} (h : Lst w (.slice (some ⟨g, 0, none⟩) n c) l) (hb : w'.heap[g]? = w.heap[g]?) : Lst w' (.slice (some ⟨g, 0, none⟩) n c) l := by
  obtain ⟨g', cap, hv, h1, h2, h3⟩ := h
  have e : g = g' := by injection hv with e; injection e with e; injection e with e
  subst e
  exact ⟨g, cap, hv, h1, h2, fun i hi => (World.cell?_of_block (w := w) hb).trans (h3 i hi)⟩
theorem own_blk {w w' : World} {B e size n : Nat} {v : Value} {xs : List Value} (h : w.ownsRow B e size v n xs) (hb : ∀ i, v.ownBlock = some i → w'.heap[i]? = w.heap[i]?) : w'.ownsRow B e size v n xs := by
  refine ⟨h.1, ?_⟩
  rcases h.2 with hn | ⟨g, cap, cur, hv, h1, hgg, rest⟩
  · exact .inl hn
  · exact .inr ⟨g, cap, cur, hv, h1, (hb g (by rw [hv]; rfl)).trans hgg, rest⟩

structure PQ (w : World) (b tb kb k z : Nat) (p : PS) (T : List Nat) (vW : Value) (X : List Wtr) : Prop where
  ck : w.cell? ⟨b, 0, none⟩ = some (.int .i64 k)
  cz : w.cell? ⟨b, 1, none⟩ = some (.int .i64 z)
  ct : w.cell? ⟨b, 2, none⟩ = some (.map (some tb))
  cn : w.cell? ⟨b, 3, none⟩ = some (.map (some kb))
  cw : w.cell? ⟨b, 4, none⟩ = some vW
  cf : w.frozen? ⟨b, 4, none⟩ = false
  tk : ∃ D, MSet w tb T D
  kn : ∃ D, MKn w kb k p.known p.B D
  row : w.ownsRow 0 66 2 vW X.length (wC X)
  xs : X.map Wtr.d = p.L
  sets : ∀ x ∈ X, Lst w (.slice (some ⟨x.g, 0, none⟩) x.n x.c) (setL k x.d.1)
  good : Good z p
  few : p.L.length ≤ T.length ∧ T.length ≤ 60
  lt : ∀ r, p.known r = true → r < k
  nk : 1 ≤ k ∧ k ≤ 16
  nz : 1 ≤ z ∧ z ≤ 8
  nbt : b ≠ tb
  nbk : b ≠ kb
  ntk : tb ≠ kb
  apW : ∀ i, vW.ownBlock = some i → i ≠ b ∧ i ≠ tb ∧ i ≠ kb
  apX : ∀ x ∈ X, x.g ≠ b ∧ x.g ≠ tb ∧ x.g ≠ kb ∧ vW.ownBlock ≠ some x.g
/-- Its blocks. -/
def PF (b tb kb : Nat) (vW : Value) (X : List Wtr) (i : Nat) : Prop := i = b ∨ i = tb ∨ i = kb ∨ vW.ownBlock = some i ∨ ∃ x ∈ X, i = x.g
theorem PQ.seeds {w : World} {b tb kb k z : Nat} {p : PS} {T : List Nat} {vW : Value} {X : List Wtr} (h : PQ w b tb kb k z p T vW X) : ∀ x ∈ X, 1 ≤ x.d.1 ∧ x.d.1 ≤ 10000 ∧ x.d.2.size = z := fun x hx => h.good.1 x.d (by rw [← h.xs]; exact List.mem_map_of_mem hx)
theorem PQ.len {w : World} {b tb kb k z : Nat} {p : PS} {T : List Nat} {vW : Value} {X : List Wtr} (h : PQ w b tb kb k z p T vW X) : X.length = p.L.length := by rw [← h.xs, List.length_map]
theorem PQ.flt {w : World} {b tb kb k z : Nat} {p : PS} {T : List Nat} {vW : Value} {X : List Wtr} (h : PQ w b tb kb k z p T vW X) : ∀ i, PF b tb kb vW X i → i < w.heap.size := fun i hi => by
  rcases hi with rfl | rfl | rfl | e | ⟨x, hx, rfl⟩
  · exact cell_lt h.ck
  · obtain ⟨D, hD⟩ := h.tk
    exact hD.1.lt
  · obtain ⟨D, hD⟩ := h.kn
    exact hD.lt
  · exact (h.row.lt i e).2
  · obtain ⟨g, cap, hv, h1, h2, h3⟩ := h.sets x hx
    have e : x.g = g := by injection hv with e; injection e with e; injection e with e
    rw [e]
    exact cell_lt (h3 0 (setL_len h.nk.1 h.nk.2 (h.seeds x hx).1 (h.seeds x hx).2.1).1)
theorem PQ.keep {w w' : World} {b tb kb k z : Nat} {p : PS} {T : List Nat} {vW : Value} {X : List Wtr} (h : PQ w b tb kb k z p T vW X) (hb : ∀ i, PF b tb kb vW X i → w'.heap[i]? = w.heap[i]?) : PQ w' b tb kb k z p T vW X := by
  have hbb := hb b (Or.inl rfl)
  have hc : ∀ i, w'.cell? ⟨b, i, none⟩ = w.cell? ⟨b, i, none⟩ := fun i => World.cell?_of_block (w := w) hbb
  have hf : ∀ i, w'.frozen? ⟨b, i, none⟩ = w.frozen? ⟨b, i, none⟩ := fun i => World.frozen?_of_block (w := w) hbb
  obtain ⟨Dt, ht⟩ := h.tk
  obtain ⟨Dk, hk⟩ := h.kn
  exact ⟨(hc 0).trans h.ck, (hc 1).trans h.cz, (hc 2).trans h.ct, (hc 3).trans h.cn, (hc 4).trans h.cw, (hf 4).trans h.cf, ⟨Dt, ht.of_block (hb tb (Or.inr (Or.inl rfl)))⟩, ⟨Dk, hk.of_block (hb kb (Or.inr (Or.inr (Or.inl rfl))))⟩,
    own_blk h.row fun i e => hb i (Or.inr (Or.inr (Or.inr (Or.inl e)))), h.xs, fun x hx => (h.sets x hx).of_block (hb x.g (Or.inr (Or.inr (Or.inr (Or.inr ⟨x, hx, rfl⟩))))), h.good, h.few, h.lt, h.nk, h.nz, h.nbt, h.nbk, h.ntk, h.apW, h.apX⟩
theorem PQ.below {w w' : World} {b tb kb k z : Nat} {p : PS} {T : List Nat} {vW : Value} {X : List Wtr} (h : PQ w b tb kb k z p T vW X) (hb : Below w.heap.size w w') : PQ w' b tb kb k z p T vW X := h.keep fun i hi => hb.block i (h.flt i hi)
/-- What its two predicates read. -/
theorem PQ.read {w : World} {b tb kb k z c : Nat} {p : PS} {T : List Nat} {vW : Value} {X : List Wtr} (h : PQ w b tb kb k z p T vW X) (hc : w.cell? ⟨c, 0, none⟩ = some (.pointer (some ⟨b, 0, none⟩))) : ∃ D, PRead w c b kb k p.known p.B D X := by
  obtain ⟨D, hD⟩ := h.kn
  exact ⟨D, hc, h.cn, hD, fun x hx => ⟨h.sets x hx, (h.seeds x hx).1, (h.seeds x hx).2.1⟩⟩
theorem sift_map {k : Nat} {kn : Nat → Bool} (X : List Wtr) : (X.filter fun x => !(lfn k kn x == 0)).map Wtr.d = sift (setL k) kn (X.map Wtr.d) := by
  unfold sift
  rw [List.filter_map]
  rfl
/-- Those of which none is left wait no more. -/
theorem PQ.siftd {w w1 : World} {b tb kb k z : Nat} {p : PS} {T : List Nat} {vW v1 : Value} {X : List Wtr} (h : PQ w b tb kb k z p T vW X) (hk : Kept (fun i => vW.ownBlock = some i) w w1)
    (ho : w1.ownsRow 0 66 2 v1 (X.filter fun x => !(lfn k p.known x == 0)).length (wC (X.filter fun x => !(lfn k p.known x == 0)))) (he : v1.ownBlock = vW.ownBlock) :
    PQ (w1.setCell ⟨b, 4, none⟩ v1) b tb kb k z ⟨p.known, p.B, sift (setL k) p.known p.L⟩ T v1 (X.filter fun x => !(lfn k p.known x == 0)) := by
  have hw : ∀ i, i ≠ b → PF b tb kb vW X i → vW.ownBlock ≠ some i → (w1.setCell ⟨b, 4, none⟩ v1).heap[i]? = w.heap[i]? := fun i hi hp hn =>
    (Below.heap_setCell w1 ⟨b, 4, none⟩ v1 i hi).trans (hk.block i (h.flt i hp) hn)
  have hnb : vW.ownBlock ≠ some b := fun e => (h.apW b e).1 rfl
  have hb1 : w1.heap[b]? = w.heap[b]? := hk.block b (h.flt b (Or.inl rfl)) hnb
  have hc : ∀ i, w1.cell? ⟨b, i, none⟩ = w.cell? ⟨b, i, none⟩ := fun i => World.cell?_of_block (w := w) hb1
  have hf : ∀ i, w1.frozen? ⟨b, i, none⟩ = w.frozen? ⟨b, i, none⟩ := fun i => World.frozen?_of_block (w := w) hb1
  obtain ⟨Dt, ht⟩ := h.tk
  obtain ⟨Dk, hkn⟩ := h.kn
  have hsub : ∀ x ∈ (X.filter fun x => !(lfn k p.known x == 0)), x ∈ X := fun x hx => (List.mem_filter.1 hx).1
  have hsl : (sift (setL k) p.known p.L).length ≤ p.L.length := sift_len _
  refine ⟨?_, ?_, ?_, ?_, ?_, ?_, ⟨Dt, ht.of_block (hw tb h.nbt.symm (Or.inr (Or.inl rfl)) (fun e => (h.apW tb e).2.1 rfl))⟩, ⟨Dk, hkn.of_block (hw kb h.nbk.symm (Or.inr (Or.inr (Or.inl rfl))) (fun e => (h.apW kb e).2.2 rfl))⟩, own_set ho (by rw [he]; exact hnb), ?_, fun x hx => ?_, ⟨fun d hd => h.good.1 d (mem_sift.1 hd).1, h.good.2⟩, ⟨Nat.le_trans hsl h.few.1, h.few.2⟩, h.lt, h.nk, h.nz, h.nbt, h.nbk, h.ntk, fun i e => h.apW i (he ▸ e), fun x hx => ?_⟩
  · rw [cell_set_off (by decide), hc]; exact h.ck
  · rw [cell_set_off (by decide), hc]; exact h.cz
  · rw [cell_set_off (by decide), hc]; exact h.ct
  · rw [cell_set_off (by decide), hc]; exact h.cn
  · exact World.cell?_setCell_same _ _ _ ((hc 4).trans h.cw)
  · rw [frozen_set, hf]; exact h.cf
  · rw [sift_map, h.xs]
  · have hx' := hsub x hx
    exact (h.sets x hx').of_block (hw x.g (h.apX x hx').1 (Or.inr (Or.inr (Or.inr (Or.inr ⟨x, hx', rfl⟩)))) (h.apX x hx').2.2.2)
  · rw [he]; exact h.apX x (hsub x hx)
/-- A block has come to be known. -/
theorem PQ.tell {w w1 : World} {b tb kb k z x n : Nat} {p : PS} {T : List Nat} {vW : Value} {X : List Wtr} {D : DataW Unit} {s : ByteArray} (h : PQ w b tb kb k z p T vW X) (hg : w.grownBy w1 (some kb)) (hM : MKn w kb k p.known p.B D) (hx : p.known x = false) (hxk : x < k) (hs : s.size = z)
    (h' : w1.ownsMap Tryd.prog 3 blkElem kb n (D.put (.int .i64 x) (.lit (.string s.data.toList)))) : PQ w1 b tb kb k z ⟨upd p.known x true, upd p.B x s, p.L⟩ T vW X := by
  have hw : ∀ i, i ≠ kb → PF b tb kb vW X i → w1.heap[i]? = w.heap[i]? := fun i hi hp => hg.block i (h.flt i hp) (fun e => hi (Option.some.inj e))
  have hb1 := hw b h.nbk (Or.inl rfl)
  have hc : ∀ i, w1.cell? ⟨b, i, none⟩ = w.cell? ⟨b, i, none⟩ := fun i => World.cell?_of_block (w := w) hb1
  have hf : ∀ i, w1.frozen? ⟨b, i, none⟩ = w.frozen? ⟨b, i, none⟩ := fun i => World.frozen?_of_block (w := w) hb1
  obtain ⟨Dt, ht⟩ := h.tk
  refine ⟨(hc 0).trans h.ck, (hc 1).trans h.cz, (hc 2).trans h.ct, (hc 3).trans h.cn, (hc 4).trans h.cw, (hf 4).trans h.cf, ⟨Dt, ht.of_block (hw tb h.ntk (Or.inr (Or.inl rfl)))⟩, ⟨_, hM.put hx hxk h'⟩, own_blk h.row fun i e => hw i (h.apW i e).2.2 (Or.inr (Or.inr (Or.inr (Or.inl e)))), h.xs, fun y hy => (h.sets y hy).of_block (hw y.g (h.apX y hy).2.2.1 (Or.inr (Or.inr (Or.inr (Or.inr ⟨y, hy, rfl⟩))))), ⟨h.good.1, fun r hr => ?_⟩, h.few, fun r hr => ?_, h.nk, h.nz, h.nbt, h.nbk, h.ntk, h.apW, h.apX⟩
  · by_cases c : r = x
    · show (if r = x then _ else _ : ByteArray).size = z
      rw [if_pos c]; exact hs
    · show (if r = x then _ else p.B r : ByteArray).size = z
      rw [if_neg c]
      exact h.good.2 r (by have hr' : (if r = x then true else p.known r) = true := hr; rw [if_neg c] at hr'; exact hr')
  · by_cases c : r = x
    · rw [c]; exact hxk
    · exact h.lt r (by have hr' : (if r = x then true else p.known r) = true := hr; rw [if_neg c] at hr'; exact hr')
end Go.Proofs.YtopibfbpecjgbaaDoor

namespace Go.Proofs.YtopibfbpecjgbaaDoor
open Go.RowKit Go.Maps
set_option linter.unusedVariables false
set_option maxRecDepth 100000

theorem came_rises (k : Nat) (kn kn' : Nat → Bool) : (came k kn kn').Pairwise (· < ·) := List.pairwise_lt_range.filter _
theorem came_perm {k x : Nat} {kn kn' : Nat → Bool} {l : List Nat} (hx : x < k) (h1 : kn x = false) (h2 : kn' x = false) (h : l.Perm (came k kn kn')) : (l ++ [x]).Perm (came k kn (upd kn' x true)) := by
  obtain ⟨A, B, e1, e2, _, _⟩ := came_ins hx h1 h2
  rw [e2]
  rw [e1] at h
  exact (List.perm_append_comm.trans (List.Perm.cons x h)).trans List.perm_middle.symm
theorem came_few (k : Nat) (kn kn' : Nat → Bool) : (came k kn kn').length ≤ k := Nat.le_trans (List.length_filter_le _ _) (by simp)
theorem dAt_map (X : List Wtr) (j : Nat) (h : j < X.length) : dAt (X.map Wtr.d) j = (wAt X j).d := by simp [dAt, wAt, List.getD, h]

/-- Behind the first step of a round. -/
def Sifted (wr : World) (b tb kb k z c : Nat) (p : PS) (T : List Nat) (vW : Value) (X : List Wtr) (t : Value) (wx : World) : Prop :=
  t.ownBlock = vW.ownBlock ∧ wx.cell? ⟨c, 0, none⟩ = some (.pointer (some ⟨b, 0, none⟩)) ∧ Kept (fun i => i = b ∨ vW.ownBlock = some i) wr wx ∧ PQ wx b tb kb k z ⟨p.known, p.B, sift (setL k) p.known p.L⟩ T t (X.filter fun x => !(lfn k p.known x == 0))
theorem Kept.wider {M M' : Nat → Prop} {w w' : World} (h : Kept M w w') (hm : ∀ i, M i → M' i) : Kept M' w w' := ⟨h.os, h.tape, h.output, h.size, fun i hi hn => h.block i hi (fun e => hn (hm i e))⟩
theorem Kept.trans {M : Nat → Prop} {w0 w w' : World} (h : Kept M w0 w) (k : Kept M w w') : Kept M w0 w' := ⟨k.os.trans h.os, k.tape.trans h.tape, k.output.trans h.output, Nat.le_trans h.size k.size, fun i hi hn => (k.block i (Nat.lt_of_lt_of_le hi h.size) hn).trans (h.block i hi hn)⟩
theorem sift_step {w wr : World} {b tb kb k z c : Nat} {p : PS} {T : List Nat} {vW : Value} {X : List Wtr} (hr : PQ wr b tb kb k z p T vW X) (hcr : wr.cell? ⟨c, 0, none⟩ = some (.pointer (some ⟨b, 0, none⟩))) (hv : vW.ownBlock ≠ some c) (hcb : c ≠ b) (hb : Below wr.heap.size wr w) :
    Calls Tryd.prog 39 #[vW, .func (.func 40) #[] #[.pointer (some ⟨c, 0, none⟩)]] w fun e w' => ∃ a1 n1 c1, e = .returned (.slice a1 n1 c1) ∧ w'.cell? ⟨c, 0, none⟩ = some (.pointer (some ⟨b, 0, none⟩)) ∧ w'.cell? ⟨b, 4, none⟩ = some vW ∧ w'.frozen? ⟨b, 4, none⟩ = false ∧ Sifted wr b tb kb k z c p T vW X (.slice a1 n1 c1) (w'.setCell ⟨b, 4, none⟩ (.slice a1 n1 c1)) := by
  have h := hr.below hb
  have hc := cell_below hb hcr
  obtain ⟨D, hR⟩ := h.read hc
  have hlen := h.len
  have hfew := h.few
  refine (delw_ok 0 c (fun x => lfn k p.known x == 0) h.row (by omega) fun W x hk hx => ?_).mono ?_
  · refine none_ok c b kb k p.known p.B D X x W h.nk.1 h.nk.2 (hR.keep ?_ ?_ ?_ fun y hy => ?_) hx
    · exact hk.block c (cell_lt hc) hv
    · exact hk.block b (h.flt b (Or.inl rfl)) (fun e => (h.apW b e).1 rfl)
    · exact hk.block kb (h.flt kb (Or.inr (Or.inr (Or.inl rfl)))) (fun e => (h.apW kb e).2.2 rfl)
    · exact hk.block y.g (h.flt y.g (Or.inr (Or.inr (Or.inr (Or.inr ⟨y, hy, rfl⟩))))) (h.apX y hy).2.2.2
  · rintro e w' ⟨v', rfl, ho, hk, he⟩
    obtain ⟨a1, c1, rfl, _⟩ := own_wtrs ho
    have hb1 : w'.heap[b]? = w.heap[b]? := hk.block b (h.flt b (Or.inl rfl)) (fun e => (h.apW b e).1 rfl)
    have hc1 : w'.heap[c]? = w.heap[c]? := hk.block c (cell_lt hc) hv
    have hc2 := (World.cell?_of_block (w := w) (a := ⟨c, 0, none⟩) hc1).trans hc
    refine ⟨a1, _, c1, rfl, hc2, (World.cell?_of_block (w := w) hb1).trans h.cw, (World.frozen?_of_block (w := w) hb1).trans h.cf, he, ?_, ?_, h.siftd hk ho he⟩
    · exact (World.cell?_setCell_other _ _ _ _ (fun e => hcb (by injection e with e1; exact e1.symm))).trans hc2
    · exact (((Kept.refl _ wr).below hb).trans (hk.wider fun i e => Or.inr e)).setCell ⟨b, 4, none⟩ _ (Or.inl (Or.inl rfl))

/-- As it goes, round by round. -/
def PInv (w0 : World) (b tb kb k z : Nat) (p : PS) (T : List Nat) (vW0 : Value) (X0 : List Wtr) (gk : Nat) (vf : Value) (wr : World) : Prop :=
  ∃ q X vW fl, PQ wr b tb kb k z q T vW X ∧ vW.ownBlock = vW0.ownBlock ∧ (∀ x ∈ X, x ∈ X0) ∧ Kept (fun i => i = b ∨ i = kb ∨ vW0.ownBlock = some i) w0 wr ∧ wr.cell? ⟨w0.heap.size, 0, none⟩ = some (.pointer (some ⟨b, 0, none⟩)) ∧
    wr.ownsRow (w0.heap.size + 1) 3 1 vf fl.length (toV fl) ∧ fl.Perm (came k p.known q.known) ∧ (∀ r, p.known r = true → q.known r = true) ∧ (∀ a, Peels (setL k) q a → Peels (setL k) p a) ∧ unk k q.known + 1 ≤ gk
/-- What it leaves. -/
def Peeled (w0 : World) (b tb kb k z : Nat) (p : PS) (T : List Nat) (vW0 : Value) (X0 : List Wtr) (v : Value) (w' : World) : Prop :=
  ∃ q X vW, Peels (setL k) p q ∧ Lsh w' v (came k p.known q.known) ∧ PQ w' b tb kb k z q T vW X ∧ vW.ownBlock = vW0.ownBlock ∧ (∀ x ∈ X, x ∈ X0) ∧ Kept (fun i => i = b ∨ i = kb ∨ vW0.ownBlock = some i) w0 w' ∧ ∀ i, v.ownBlock = some i → w0.heap.size ≤ i

set_option maxHeartbeats 4000000 in
theorem peel_ok (b tb kb k z : Nat) (p : PS) (T : List Nat) (vW : Value) (X : List Wtr) (w : World) (h : PQ w b tb kb k z p T vW X) :
    Calls Tryd.prog 22 #[.pointer (some ⟨b, 0, none⟩)] w fun e w' => ∃ v, e = .returned (.tuple #[v, .nilIface]) ∧ Peeled w b tb kb k z p T vW X v w' := by
  have H := hide h
  have hbw := h.flt b (Or.inl rfl)
  have hkw := h.flt kb (Or.inr (Or.inr (Or.inl rfl)))
  have HW : Hid (∀ i, vW.ownBlock = some i → i < w.heap.size) := fun i e => (h.row.lt i e).2
  have hb0 : Below w.heap.size w (w.alloc (.cells #[.pointer (some ⟨b, 0, none⟩)] 24)) := (Below.refl _ _).alloc (Nat.le_refl _) _
  have HB0 := hide hb0
  have hnk := h.nk
  clear h hb0
  go_enter Tryd.func22, Tryd.ntmps22
  go_wp2_with fail
  go_loopg [4] (unk k p.known + 1) (fun gk vf wr => PInv w b tb kb k z p T vW X gk vf wr)
  case atStart =>
    refine ⟨p, X, vW, [], H.out.below HB0.out, rfl, fun x hx => hx, (Kept.refl _ w).below HB0.out, by simp, World.ownsRow_nil _ _ _ _, ?_, fun r h => h, fun a h => h, Nat.le_refl _⟩
    have e : came k p.known p.known = [] := List.filter_eq_nil_iff.2 fun r _ => by cases p.known r <;> simp
    rw [e]
  case round =>
    obtain ⟨q, Xq, vq, fl, hQ, hvo, hXs, hKp, hbx, hfl, hperm, hgr, hto, hun⟩ := hrel
    have HQ := hide hQ
    have HVO := hide hvo
    have HXS := hide hXs
    have HKP := hide hKp
    have HFL := hide hfl
    have HPM := hide hperm
    have HGR := hide hgr
    have HTO := hide hto
    have hcw := hQ.cw
    have hcf := hQ.cf
    have hnb : w.heap.size ≠ b := by omega
    have hbx' := hbx
    have S1 := hide (fun W (hb : Below wr.heap.size wr W) => sift_step (c := w.heap.size) HQ.out hbx' (fun e => by rw [HVO.out] at e; have := HW.out _ e; omega) hnb hb)
    obtain ⟨aq, cq, hveq, hq1, hq2, _⟩ := own_wtrs hQ.row
    have HVE := hide hveq
    rw [hveq] at hcw S1
    clear hQ hvo hXs hKp hfl hperm hgr hto hveq hbx'
    unfold maxLen at hq2
    go_upto_region 2 with fail
    go_cut [16] from 10 to 61 (fun t wx => ∃ a1 n1 c1, t = .slice a1 n1 c1 ∧ Sifted wr b tb kb k z w.heap.size q T (.slice aq Xq.length cq) Xq (.slice a1 n1 c1) wx)
    case first =>
      go_region_with (first | (go_at_call 39; refine (S1.out _ ((Below.refl _ _).drew)).mono ?_; rintro e w1 ⟨a1, n1, c1, rfl, hs1, hs2, hs3, hs4⟩))
      all_goals
        go_wp2_with fail
        go_meet
        exact ⟨a1, n1, c1, rfl, hs4⟩
    case rest =>
    obtain ⟨a1, n1, c1, htc, hs1, hs2, hs3, hs4⟩ := hcut
    clear htc S1 hcw hcf hbx
    have HQ1 := hide hs4
    have HV1 := hide hs1
    have HK1 : Hid (Kept (fun i => i = b ∨ i = kb ∨ vW.ownBlock = some i) w wc) := HKP.out.trans (hs3.wider fun i e => e.imp id fun e => Or.inr (by rw [← HVO.out, HVE.out]; exact e))
    have HF1 : Hid (wc.ownsRow (w.heap.size + 1) 3 1 u4 fl.length (toV fl)) := own_blk HFL.out fun i e => hs3.block i (HFL.out.lt i e).2 (fun e2 => by
      have h9 := (HFL.out.lt i e).1
      rcases e2 with e2 | e2
      · omega
      · have := HW.out i (by rw [← HVO.out, HVE.out]; exact e2); omega)
    have hbx := hs2
    have hcw := hs4.cw
    have HFlt : Hid (∀ i, PF b tb kb (.slice a1 n1 c1) (Xq.filter fun x => !(lfn k q.known x == 0)) i → i < w.heap.size) := fun i hi => H.out.flt i (by
      rcases hi with e | e | e | e | ⟨x, hx, e⟩
      · exact Or.inl e
      · exact Or.inr (Or.inl e)
      · exact Or.inr (Or.inr (Or.inl e))
      · exact Or.inr (Or.inr (Or.inr (Or.inl (by rw [← HVO.out, HVE.out, ← HV1.out]; exact e))))
      · exact Or.inr (Or.inr (Or.inr (Or.inr ⟨x, HXS.out x (List.mem_filter.1 hx).1, e⟩))))
    have HSub : Hid (∀ x ∈ (Xq.filter fun x => !(lfn k q.known x == 0)), x ∈ X) := fun x hx => HXS.out x (List.mem_filter.1 hx).1
    have HXL : Hid ((Xq.filter fun x => !(lfn k q.known x == 0)).map Wtr.d = sift (setL k) q.known q.L) := hs4.xs
    obtain ⟨D2, hR2⟩ := hs4.read hs2
    have IX := hide (idxO_ok 0 w.heap.size (fun x => lfn k q.known x == 1) hs4.row fun W x hb hx => one_ok w.heap.size b kb k q.known q.B D2 _ x W hnk.1 hnk.2 (hR2.below hnk.1 hnk.2 hb) hx)
    have HL1 := hide hs4.len
    obtain ⟨a1', c1', hv1, hr1, hr2, hr3, hr4⟩ := own_wtrs hs4.row
    injection hv1 with ea en ec
    subst ea en ec
    have HR3 := hide hr3
    have HR4 := hide hr4
    unfold maxLen at hr2
    clear hs1 hs2 hs3 hs4 hr3 hr4 hR2 HFL HKP HXS
    generalize hX1 : (Xq.filter fun x => !(lfn k q.known x == 0)) = X1 at *
    clear hX1
    go_wp2_with fail
    refine (IX.out).mono ?_
    rintro e w2 ⟨i2, rfl, hi2, hb2⟩
    have HQ2 := hide (HQ1.out.below hb2)
    have HF2 := hide (own_under' HF1.out hb2)
    have HK2 := hide (HK1.out.below hb2)
    have hbx2 := cell_below hb2 hbx
    have hcw2 := cell_below hb2 hcw
    have HB2 := hide hb2
    clear IX hb2 HQ1 HF1 HK1 hbx hcw
    rcases hi2 with ⟨rfl, hall⟩ | ⟨j0, rfl, hj0, hd0, hno⟩
    · have HALL := hide hall
      clear hall
      have SO := hide (sort_ok _ HF2.out (Nat.le_trans (by rw [HPM.out.length_eq]; exact came_few _ _ _) hnk.2) HPM.out (came_rises _ _ _))
      go_wp2_with fail
      refine (SO.out).mono ?_
      rintro e w3 ⟨rfl, ho3, hg3⟩
      have HO3 := hide ho3
      have HG3 := hide hg3
      clear ho3 hg3 SO
      go_wp2
      go_ret2
      refine ⟨_, rfl, ⟨q.known, q.B, sift (setL k) q.known q.L⟩, X1, _, HTO.out _ (Peels.done ?_), own_lsh HO3.out, HQ2.out.keep fun i hi => HG3.out.block i (HQ2.out.flt i hi) fun e => ?_, by rw [HV1.out, ← HVE.out, HVO.out], HSub.out, ?_, fun i e => ?_⟩
      · show (sift (setL k) q.known q.L).find? _ = none
        rw [← HXL.out]
        refine find_none fun i hi => ?_
        rw [List.length_map] at hi
        rw [dAt_map X1 i hi]
        exact HALL.out i hi
      · have h9 := (HF2.out.lt i e.symm).1
        have := HFlt.out i hi
        omega
      · exact HK2.out.grown HG3.out fun i e => Or.inr (by have := (HF2.out.lt i e).1; omega)
      · have := (HO3.out.lt i e).1; omega
    · obtain ⟨g1, ha1⟩ := HR3.out (by omega)
      subst ha1
      have hc1 := cell_below HB2.out (HR4.out g1 rfl j0 hj0).1
      have hc2 := cell_below HB2.out (HR4.out g1 rfl j0 hj0).2
      have hxm := wAt_mem hj0
      have HFind : Hid (oneOf (setL k) q = some (wAt X1 j0).d) := by
        show (sift (setL k) q.known q.L).find? _ = _
        rw [← HXL.out, ← dAt_map X1 j0 hj0]
        refine find_first (by rw [List.length_map]; exact hj0) (fun i hi => ?_) ?_
        · rw [dAt_map X1 i (by omega)]; exact hno i hi
        · rw [dAt_map X1 j0 hj0]; exact hd0
      obtain ⟨x, hx⟩ : ∃ x, lft (setL k) q.known (wAt X1 j0).d = [x] := List.length_eq_one_iff.1 (by simpa [lfn] using hd0)
      have HX := hide hx
      have hy := HQ2.out.seeds _ hxm
      have HS := hide (HQ2.out.sets _ hxm)
      clear hno hd0 hx hxm
      generalize wAt X1 j0 = y at *
      obtain ⟨gy, ny, cy, sy, ty⟩ := y
      simp only at hc1 hc2 hy HS HX HFind
      have hxq : Hid (x ∈ setL k sy ∧ q.known x = false) := mem_lft.1 (show x ∈ lft (setL k) q.known (sy, ty) by rw [HX.out]; simp)
      have hxk : x < k := setL_lt hnk.1 hy.1 hxq.out.1
      have hba : Below w2.heap.size w2 (w2.alloc (.cells #[.slice (some ⟨gy, 0, none⟩) ny cy, .string ty] 66)) := (Below.refl _ _).alloc (Nat.le_refl _) _
      have HQ3 := hide (HQ2.out.below hba)
      obtain ⟨D3, hD3⟩ := HQ3.out.kn
      have hnz := HQ3.out.nz
      have RS := hide (rest_ok b kb k sy x z q.known q.B D3 _ ty _ hnk.1 hnk.2 hy.1 hy.2.1 hnz.2 HQ3.out.cn hD3 (HS.out.below hba) HX.out hy.2.2 HQ3.out.good.2)
      have HBA := hide hba
      have hbx3 := cell_below hba hbx2
      have hn := wtr_new w2 (.slice (some ⟨gy, 0, none⟩) ny cy) (.string ty)
      clear hba hD3
      go_wp2_with fail
      refine (RS.out).mono ?_
      rintro e w4 ⟨rfl, hb4⟩
      have HQ4 := hide (HQ3.out.below hb4)
      obtain ⟨D4, hD4⟩ := HQ4.out.kn
      have HB4 := hide (below_two HBA.out hb4)
      have hbx4 := cell_below hb4 hbx3
      have hn1 := cell_below hb4 hn.1
      have hn2 := cell_below hb4 hn.2
      have LF := hide (pleft_ok b kb k sy q.known q.B D4 _ ty w4 hnk.1 hnk.2 hy.1 hy.2.1 HQ4.out.cn hD4 (HS.out.below HB4.out))
      rw [HX.out] at LF
      have hos : Hid ((outB q.B x (setL k sy) ty).size = z) := by rw [Hid, outB_size]; exact hy.2.2
      clear hb4 hD4 hn HQ3 HBA hbx3 hc1 hc2 RS hcw2
      generalize hob : outB q.B x (setL k sy) ty = ob at *
      have HOB := hide hob
      clear hob
      go_wp2_with fail
      refine (LF.out).mono ?_
      rintro e w5 ⟨v5, rfl, hl5, hb5, hf5⟩
      obtain ⟨a5, c5, rfl, hq5, hm5, hl5'⟩ := hl5
      obtain ⟨g5, c5', hv5, _, _, hcell5⟩ := hl5' (by simp)
      injection hv5 with ea5 _ ec5
      subst ea5 ec5
      have hx5 := hcell5 0 (by simp)
      simp only [Nat.zero_add, List.getD_cons_zero] at hx5
      have HQ5 := hide (HQ4.out.below hb5)
      obtain ⟨D5, hD5⟩ := HQ5.out.kn
      have HD5 := hide hD5
      have hcn5 := HQ5.out.cn
      have hbx5 := cell_below hb5 hbx4
      have HB5 := hide (below_two (below_two HB2.out HB4.out) hb5)
      have HK5 := hide ((HK2.out.below HB4.out).below hb5)
      have HF5 := hide (own_under' (own_under' HF2.out HB4.out) hb5)
      have hfew := hD5.few
      have hn16 : Hid (Maps.size D5 < maxLen) := by unfold Hid maxLen; omega
      unfold maxLen at hm5
      have hfl16 : fl.length ≤ 16 := Nat.le_trans (by rw [HPM.out.length_eq]; exact came_few _ _ _) hnk.2
      have hw5 : w.heap.size ≤ w5.heap.size := HK5.out.size
      have HKE := hide (key16 (r := x) (by omega))
      have HKF : Hid (kb ≠ w.heap.size) := by unfold Hid; omega
      have hub : Hid (∀ i, u4.ownBlock = some i → w.heap.size + 1 ≤ i) := fun i e => (HF5.out.lt i e).1
      have hcl : Hid (w.heap.size < w5.heap.size) := cell_lt hbx5
      obtain ⟨i0, hi0, hz0, hz1, hz2⟩ := info_parts Tryd.infoInt
      have Hi := hide hi0
      have Hz0 := hide hz0
      have Hz1 := hide hz1
      have Hz2 := hide hz2
      clear hcell5 hl5' hi0 hz0 hz1 hz2 hD5 hf5 hn1 hn2 hbx4 HQ4 LF hb5 hbx2
      go_wp2_with (first
        | (at_mapUpdate; refine wpList_mapUpdate_own _ rfl _ _ _ 56 rfl 3 69 Tryd.lawInt Tryd.underlying56 blkElem kb (Maps.size D5) D5 rfl HD5.out.own hn16.out _ _ _ rfl rfl HKE.out _ [] (blkElem_mk ob) ?_; intro w6 hown6 hgrow6; have HF6 := hide (own_blk HF5.out fun i e => hgrow6.block i (HF5.out.lt i e).2 (fun e2 => by have := hub.out i e; cases e2; omega)); have hw6 := Nat.lt_of_lt_of_le hcl.out hgrow6.size)
        | (at_builtin; refine wpList_append_own _ rfl _ _ 23 rfl (w.heap.size + 1) 3 i0 (.int .i64 0) 1 8 Tryd.underlying23 Hi.out Hz0.out Hz1.out Hz2.out rfl (by decide) _ _ _ rfl (HF6.out.alloc _) ⟨w6.heap.size, 0, none⟩ 1 1 [.int .i64 (x : Nat)] rfl rfl (cell_one_new _ _ _) (fun y hy => by simp at hy; subst hy; rfl) (by unfold maxLen; omega) (by omega) (by simp; omega) ?_; intro v7 w7 hown7 hgrow7 hnil7)
        | fail)
      go_roundg (gk - 1)
      case measure => omega
      case rel =>
        have HBA6 : Below w6.heap.size w6 (w6.alloc (.cells #[.int .i64 (x : Nat)] 3)) := (Below.refl _ _).alloc (Nat.le_refl _) _
        have hQ6 := (HQ5.out.tell hgrow6 HD5.out hxq.out.2 hxk hos.out hown6).below HBA6
        have hpx : p.known x = false := by
          cases e : p.known x with
          | false => rfl
          | true => have := HGR.out x e; rw [hxq.out.2] at this; cases this
        refine ⟨⟨upd q.known x true, upd q.B x ob, sift (setL k) q.known q.L⟩, X1, _, fl ++ [x], hQ6.keep fun i hi => hgrow7.block i (hQ6.flt i hi) fun e => ?_, by rw [HV1.out, ← HVE.out, HVO.out], HSub.out, ?_, ?_, ?_, came_perm hxk hpx hxq.out.2 HPM.out, fun r hr => upd_grows x r (HGR.out r hr), fun a ha => HTO.out a (Peels.step HFind.out HX.out ?_), ?_⟩
        · have := hub.out i e.symm
          have := HFlt.out i hi
          omega
        · refine Kept.grown ((HK5.out.grown hgrow6 fun i e => Or.inl (Or.inr (Or.inl (by cases e; rfl)))).below HBA6) hgrow7 fun i e => Or.inr (by have := hub.out i e; omega)
        · refine (World.cell?_of_block (w := w6.alloc (.cells #[.int .i64 (x : Nat)] 3)) (hgrow7.block _ (by simp; omega) fun e => ?_)).trans (cell_below HBA6 ((World.cell?_of_block (w := w5) (hgrow6.block _ hcl.out fun e => ?_)).trans hbx5))
          · have := hub.out _ e.symm; simp at this; omega
          · cases e; exact HKF.out rfl
        · rw [List.length_append, show toV (fl ++ [x]) = toV fl ++ [.int .i64 (x : Nat)] by simp [toV]]
          exact hown7
        · have e : after (setL k) q (sy, ty) x = ⟨upd q.known x true, upd q.B x ob, sift (setL k) q.known q.L⟩ := by
            unfold after
            show PS.mk _ (upd q.B x (outB q.B x (setL k sy) ty)) _ = _
            rw [HOB.out]
          rw [e]; exact ha
        · have := unk_less hxq.out.2 hxk
          show unk k (upd q.known x true) + 1 ≤ gk - 1
          omega
end Go.Proofs.YtopibfbpecjgbaaDoor
