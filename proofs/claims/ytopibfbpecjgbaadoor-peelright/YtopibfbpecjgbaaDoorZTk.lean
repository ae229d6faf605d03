/-
  Lemmas for the law above, joined into one text (PIm, SetNew, PTake, PMore, PImI, PKit). No statement is proved here.
-/
import Derived.Test.YtopibfbpecjgbaaDoorZRef
import Derived.Test.YtopibfbpecjgbaaDoorZNum
import Derived.Test.YtopibfbpecjgbaaDoorZPl
import Derived.Deep.RegionLaw
import Derived.Deep.DrawnRows
namespace Go.Proofs.YtopibfbpecjgbaaDoor
open Go.RowKit Go.Maps
set_option linter.unusedVariables false
set_option maxRecDepth 100000

/-- What Take finds: the fault's number. -/
def tF (k z : Nat) (T : List Nat) (seed : Int) (n : Nat) : Int := if fD k z seed n ≠ 0 then fD k z seed n else if seed.toNat ∈ T then 7 else if 60 ≤ T.length then 4 else 0
/-- What Block finds, and tells. -/
def bF (k : Nat) (p : PS) (i : Int) : Int := if i < 0 ∨ (k : Int) ≤ i then 1 else if p.known i.toNat then 0 else 5
def bS (k : Nat) (p : PS) (i : Int) : ByteArray := if i < 0 ∨ (k : Int) ≤ i then ⟨#[]⟩ else if p.known i.toNat then p.B i.toNat else ⟨#[]⟩
/-- One that knows nothing. -/
def p0 : PS := ⟨fun _ => false, fun _ => ⟨#[]⟩, []⟩

structure PIm where
  St : World → Value → Nat → Nat → PS → List Nat → Prop
  foot : World → Value → Nat → Prop
  foot_lt : ∀ {w : World} {v : Value} {k z : Nat} {p : PS} {T : List Nat}, St w v k z p T → ∀ i, foot w v i → i < w.heap.size
  keep : ∀ {w w' : World} {v : Value} {k z : Nat} {p : PS} {T : List Nat}, St w v k z p T → w.heap.size ≤ w'.heap.size → (∀ i, foot w v i → w'.heap[i]? = w.heap[i]?) → St w' v k z p T ∧ ∀ i, foot w' v i → foot w v i
  new_ok : ∀ (k z : Nat) (w : World), 1 ≤ k → k ≤ 16 → 1 ≤ z → z ≤ 8 → Calls Tryd.prog 6 #[.int .i64 k, .int .i64 z] w fun e w' => ∃ v, e = .returned (.tuple #[v, .nilIface]) ∧ St w' v k z p0 [] ∧ (∀ i, foot w' v i → w.heap.size ≤ i) ∧ Below w.heap.size w w'
  new_range : ∀ (k z : Int) (w : World), ¬ ((1 ≤ k ∧ k ≤ 16) ∧ 1 ≤ z ∧ z ≤ 8) → Calls Tryd.prog 6 #[.int .i64 k, .int .i64 z] w fun e w' => ∃ v, e = .returned (.tuple #[v, .iface 54 (.int .i64 1)]) ∧ Below w.heap.size w w'
  take_bad : ∀ {w : World} {v : Value} {k z : Nat} {p : PS} {T : List Nat}, St w v k z p T → ∀ (seed : Int) (data : ByteArray), data.size ≤ maxLen → tF k z T seed data.size ≠ 0 →
    Calls Tryd.prog 7 #[v, dropV seed data] w fun e w' => ∃ vs, e = .returned (.tuple #[vs, .iface 54 (.int .i64 (tF k z T seed data.size))]) ∧ Lsh w' vs [] ∧ St w' v k z p T ∧ Kept (foot w v) w w' ∧ ∀ i, foot w' v i → foot w v i ∨ w.heap.size ≤ i
  take_ok : ∀ {w : World} {v : Value} {k z : Nat} {p : PS} {T : List Nat}, St w v k z p T → ∀ (seed : Nat) (data : ByteArray), tF k z T seed data.size = 0 →
    Calls Tryd.prog 7 #[v, dropV seed data] w fun e w' => ∃ vs q, e = .returned (.tuple #[vs, .nilIface]) ∧ Peels (setL k) ⟨p.known, p.B, p.L ++ [(seed, data)]⟩ q ∧ Lsh w' vs (came k p.known q.known) ∧ St w' v k z q (T ++ [seed]) ∧ Kept (foot w v) w w' ∧ ∀ i, foot w' v i → foot w v i ∨ w.heap.size ≤ i
  knows_ok : ∀ {w : World} {v : Value} {k z : Nat} {p : PS} {T : List Nat}, St w v k z p T → Calls Tryd.prog 12 #[v] w fun e w' => ∃ vs, e = .returned vs ∧ Lsh w' vs (knows k p.known) ∧ Below w.heap.size w w'
  waits_ok : ∀ {w : World} {v : Value} {k z : Nat} {p : PS} {T : List Nat}, St w v k z p T → Calls Tryd.prog 14 #[v] w fun e w' => e = .returned (.int .i64 (p.L.length : Nat)) ∧ Below w.heap.size w w'
  block_any : ∀ {w : World} {v : Value} {k z : Nat} {p : PS} {T : List Nat}, St w v k z p T → ∀ i : Int, Calls Tryd.prog 8 #[v, .int .i64 i] w fun e w' => ∃ err, e = .returned (.tuple #[.string (bS k p i), err]) ∧ ErrIs (bF k p i) err ∧ Below w.heap.size w w'
theorem PIm.below (I : PIm) {w w' : World} {v : Value} {k z : Nat} {p : PS} {T : List Nat} (h : I.St w v k z p T) (hb : Below w.heap.size w w') : I.St w' v k z p T ∧ ∀ i, I.foot w' v i → I.foot w v i := I.keep h hb.size fun i hi => hb.block i (I.foot_lt h i hi)
theorem fD_ok {k z sj : Int} {n : Nat} (h : fD k z sj n = 0) : OkD k z sj ∧ (n : Int) = z := by
  unfold fD at h
  by_cases c : OkD k z sj
  · rw [if_pos c] at h
    by_cases c2 : (n : Int) = z
    · exact ⟨c, c2⟩
    · rw [if_neg c2] at h; cases h
  · rw [if_neg c] at h; cases h
end Go.Proofs.YtopibfbpecjgbaaDoor

namespace Go.Proofs.YtopibfbpecjgbaaDoor
open Go.RowKit Go.Maps
set_option linter.unusedVariables false
set_option maxRecDepth 100000

set_option maxHeartbeats 1000000 in
theorem set_new (k seed : Nat) (w : World) (hk : 1 ≤ k) (hk2 : k ≤ 16) (h1 : 1 ≤ seed) (h2 : seed ≤ 10000) :
    Calls Tryd.prog 20 #[.int .i64 k, .int .i64 seed] w fun e w' => ∃ v, e = .returned (.tuple #[v, .nilIface]) ∧ Lst w' v (setL k seed) ∧ Below w.heap.size w w' ∧ ∀ i, v.ownBlock = some i → w.heap.size ≤ i := by
  have Wk := hide (within_ok k 16 w (by omega) (by omega))
  have Ws := hide (within_ok seed 10000 w (by omega) (by omega))
  by_cases hle : seed ≤ k
  · have HL := hide (setL_one hle)
    have hle' : (seed : Int) ≤ (k : Int) := by omega
    clear hle
    go_enter Tryd.func20, Tryd.ntmps20
    go_wp2_with fail
    refine (Wk.out).mono ?_
    rintro e w1 ⟨rfl, rfl⟩
    go_wp2_with fail
    refine (Ws.out).mono ?_
    rintro e w1 ⟨rfl, rfl⟩
    go_wp2
    go_ret2
    refine ⟨_, rfl, ?_, ?_, fun i e => by cases e; exact Nat.le_refl _⟩
    · rw [HL.out]
      refine ⟨_, _, rfl, Nat.le_refl _, by unfold maxLen; simp, fun i hi => ?_⟩
      obtain rfl : i = 0 := by simpa using hi
      have h9 := cell_one_new w (.int .i64 ((seed : Int) - 1)) 3 0 _ rfl
      have e9 : (((seed - 1 : Nat)) : Int) = (seed : Int) - 1 := by omega
      simp only [Addr.add, List.getD_cons_zero, e9] at h9 ⊢
      exact h9
    · exact (Below.refl _ _).alloc (Nat.le_refl _) _
  · have hle' : ¬ (seed : Int) ≤ (k : Int) := by omega
    have hx : Num (seed : Int) := ⟨by omega, by omega⟩
    have B := hide (below_ok seed 1000 w hx (by omega) (by omega))
    obtain ⟨n, hn, hn2⟩ : ∃ n : Nat, nxt seed % 1000 = (n : Int) ∧ n < 1000 := ⟨(nxt seed % 1000).toNat, by omega, by omega⟩
    have HD : Hid (setD k seed = deg k n) := by unfold Hid setD; rw [hn, Int.toNat_natCast]
    rw [hn] at B
    have O := hide (of_ok k n w hk hk2 hn2)
    have hd1 := deg_le k n hk
    have hd0 := deg_ge k n
    have HS : Hid (∀ i, Stop k (nxt seed) (setD k seed) i → setL k seed = setAt k (nxt seed) i) := fun i hs => setL_stop hle hs
    have D := hide (draw_ok k (deg k n) (nxt seed) w hx.nxt hk hk2 hd1)
    clear hn hx hle
    generalize nxt (seed : Int) = y at *
    generalize deg k n = d at *
    go_enter Tryd.func20, Tryd.ntmps20
    go_wp2_with fail
    refine (Wk.out).mono ?_
    rintro e w1 ⟨rfl, rfl⟩
    go_wp2_with fail
    refine (Ws.out).mono ?_
    rintro e w1 ⟨rfl, rfl⟩
    go_wp2_with fail
    refine (B.out).mono ?_
    rintro e w1 ⟨rfl, rfl⟩
    go_wp2_with fail
    refine (O.out).mono ?_
    rintro e w1 ⟨rfl, rfl⟩
    go_wp2_with fail
    refine (D.out).mono ?_
    rintro e w1 ⟨rfl, i, hst, ⟨D1, hM⟩, hb⟩
    have HI := hide hst
    have HB := hide hb
    have hl16 := setAt_len k y i
    have R := hide (rising_ok k w.heap.size (setAt k y i) D1 w1 hk2 (by omega) hM)
    clear hst hb hM
    go_wp2_with fail
    refine (R.out).mono ?_
    rintro e w2 ⟨v, rfl, hrow, hb2⟩
    have HR := hide hrow
    have HB2 := hide hb2
    clear hrow hb2
    go_wp2
    go_ret2
    refine ⟨v, rfl, ?_, below_two HB.out HB2.out, fun i e => Nat.le_trans HB.out.size (HR.out.lt i e).1⟩
    have hr := HR.out
    rw [upTo_setAt] at hr
    rw [HS.out i (HD.out ▸ HI.out)]
    exact own_lst hr (by rw [HI.out.1]; omega)
end Go.Proofs.YtopibfbpecjgbaaDoor

namespace Go.Proofs.YtopibfbpecjgbaaDoor
open Go.RowKit Go.Maps
set_option linter.unusedVariables false
set_option maxRecDepth 100000

/-- 'had' of a set, in any world that has it. -/
theorem MSet.look {w : World} {b : Nat} {l : List Nat} {D : DataW Unit} (h : MSet w b l D) {r : Nat} (hr : r ≤ 10000) : (Instr.lookup 55 (.map (some b)) (.int .i64 (r : Nat)) true).run Tryd.prog w = .ok (.tuple #[.agg #[], .bool (decide (r ∈ l))]) w := by
  obtain ⟨v, ps, h1, h2⟩ := h.1.look_ok Tryd.lawInt Tryd.underlying55 (Tryd.zeroUnit w) unitElem_mk (key16 hr)
  obtain ⟨rfl, _⟩ := unitElem_inv h2
  rw [h1, h.2.2 r]

/-- A seed is taken. -/
theorem PQ.took {w w1 : World} {b tb kb k z seed : Nat} {p : PS} {T : List Nat} {vW : Value} {X : List Wtr} {D : DataW Unit} (h : PQ w b tb kb k z p T vW X) (hg : w.grownBy w1 (some tb)) (hM : MSet w tb T D) (hm : seed ∉ T) (h60 : T.length < 60)
    (h' : w1.ownsMap Tryd.prog 3 unitElem tb (T.length + 1) (D.put (.int .i64 seed) (.agg []))) : PQ w1 b tb kb k z p (T ++ [seed]) vW X := by
  have hw : ∀ i, i ≠ tb → PF b tb kb vW X i → w1.heap[i]? = w.heap[i]? := fun i hi hp => hg.block i (h.flt i hp) (fun e => hi (Option.some.inj e))
  have hb1 := hw b h.nbt (Or.inl rfl)
  have hc : ∀ i, w1.cell? ⟨b, i, none⟩ = w.cell? ⟨b, i, none⟩ := fun i => World.cell?_of_block (w := w) hb1
  have hf : ∀ i, w1.frozen? ⟨b, i, none⟩ = w.frozen? ⟨b, i, none⟩ := fun i => World.frozen?_of_block (w := w) hb1
  obtain ⟨Dk, hk⟩ := h.kn
  have hfew := h.few
  exact ⟨(hc 0).trans h.ck, (hc 1).trans h.cz, (hc 2).trans h.ct, (hc 3).trans h.cn, (hc 4).trans h.cw, (hf 4).trans h.cf, ⟨_, hM.put h' (l' := T ++ [seed]) (fun a => by simp [or_comm]) (by rw [if_neg hm]; simp)⟩, ⟨Dk, hk.of_block (hw kb h.ntk.symm (Or.inr (Or.inr (Or.inl rfl))))⟩, own_blk h.row fun i e => hw i (h.apW i e).2.1 (Or.inr (Or.inr (Or.inr (Or.inl e)))), h.xs, fun y hy => (h.sets y hy).of_block (hw y.g (h.apX y hy).2.1 (Or.inr (Or.inr (Or.inr (Or.inr ⟨y, hy, rfl⟩))))), h.good, by rw [List.length_append]; simp; omega, h.lt, h.nk, h.nz, h.nbt, h.nbk, h.ntk, h.apW, h.apX⟩
/-- A drop waits, behind those that wait. -/
theorem PQ.add {w w1 : World} {b tb kb k z : Nat} {p : PS} {T : List Nat} {vW v : Value} {X : List Wtr} {x : Wtr} (h : PQ w b tb kb k z p T vW X) (hg : w.grownBy w1 vW.ownBlock) (hv : w1.ownsRow 0 66 2 v (X ++ [x]).length (wC (X ++ [x])))
    (hat : v.ownBlock = vW.ownBlock ∨ ∃ i, v.ownBlock = some i ∧ w.heap.size ≤ i) (hx : Lst w (.slice (some ⟨x.g, 0, none⟩) x.n x.c) (setL k x.d.1)) (hxl : x.g < w.heap.size) (hxf : ¬ PF b tb kb vW X x.g) (hd : 1 ≤ x.d.1 ∧ x.d.1 ≤ 10000 ∧ x.d.2.size = z) (hl : p.L.length < T.length) :
    PQ (w1.setCell ⟨b, 4, none⟩ v) b tb kb k z ⟨p.known, p.B, p.L ++ [x.d]⟩ T v (X ++ [x]) := by
  have hw : ∀ i, i ≠ b → i < w.heap.size → vW.ownBlock ≠ some i → (w1.setCell ⟨b, 4, none⟩ v).heap[i]? = w.heap[i]? := fun i hi hp hn =>
    (Below.heap_setCell w1 ⟨b, 4, none⟩ v i hi).trans (hg.block i hp (fun e => hn e.symm))
  have hnb : vW.ownBlock ≠ some b := fun e => (h.apW b e).1 rfl
  have hb1 : w1.heap[b]? = w.heap[b]? := hg.block b (h.flt b (Or.inl rfl)) (fun e => hnb e.symm)
  have hc : ∀ i, w1.cell? ⟨b, i, none⟩ = w.cell? ⟨b, i, none⟩ := fun i => World.cell?_of_block (w := w) hb1
  have hf : ∀ i, w1.frozen? ⟨b, i, none⟩ = w.frozen? ⟨b, i, none⟩ := fun i => World.frozen?_of_block (w := w) hb1
  obtain ⟨Dt, ht⟩ := h.tk
  obtain ⟨Dk, hkn⟩ := h.kn
  have hvn : ∀ i, i < w.heap.size → v.ownBlock = some i → vW.ownBlock = some i := fun i hi e => by
    rcases hat with e2 | ⟨j, e2, hj⟩
    · rw [← e2]; exact e
    · rw [e] at e2; cases e2; omega
  have hltb := h.flt b (Or.inl rfl)
  have hltt := h.flt tb (Or.inr (Or.inl rfl))
  have hltk := h.flt kb (Or.inr (Or.inr (Or.inl rfl)))
  have hxg : x.g ≠ b ∧ x.g ≠ tb ∧ x.g ≠ kb ∧ vW.ownBlock ≠ some x.g := ⟨fun e => hxf (Or.inl e), fun e => hxf (Or.inr (Or.inl e)), fun e => hxf (Or.inr (Or.inr (Or.inl e))), fun e => hxf (Or.inr (Or.inr (Or.inr (Or.inl e))))⟩
  have hyl : ∀ y ∈ X, y.g < w.heap.size := fun y hy => h.flt y.g (Or.inr (Or.inr (Or.inr (Or.inr ⟨y, hy, rfl⟩))))
  refine ⟨?_, ?_, ?_, ?_, ?_, ?_, ⟨Dt, ht.of_block (hw tb h.nbt.symm hltt (fun e => (h.apW tb e).2.1 rfl))⟩, ⟨Dk, hkn.of_block (hw kb h.nbk.symm hltk (fun e => (h.apW kb e).2.2 rfl))⟩, own_set hv (fun e => hnb (hvn b hltb e)), ?_, fun y hy => ?_, ⟨fun d hdm => ?_, h.good.2⟩, ?_, h.lt, h.nk, h.nz, h.nbt, h.nbk, h.ntk, fun i e => ?_, fun y hy => ?_⟩
  · rw [cell_set_off (by decide), hc]; exact h.ck
  · rw [cell_set_off (by decide), hc]; exact h.cz
  · rw [cell_set_off (by decide), hc]; exact h.ct
  · rw [cell_set_off (by decide), hc]; exact h.cn
  · exact World.cell?_setCell_same _ _ _ ((hc 4).trans h.cw)
  · rw [frozen_set, hf]; exact h.cf
  · rw [List.map_append, h.xs]; rfl
  · rcases List.mem_append.1 hy with hy | hy
    · exact (h.sets y hy).of_block (hw y.g (h.apX y hy).1 (hyl y hy) (h.apX y hy).2.2.2)
    · rw [List.mem_singleton.1 hy]
      exact hx.of_block (hw x.g hxg.1 hxl hxg.2.2.2)
  · rcases List.mem_append.1 hdm with hdm | hdm
    · exact h.good.1 d hdm
    · rw [List.mem_singleton.1 hdm]; exact hd
  · rw [List.length_append]; exact ⟨hl, h.few.2⟩
  · rcases hat with e2 | ⟨j, e2, hj⟩
    · exact h.apW i (e2 ▸ e)
    · rw [e] at e2; cases e2
      exact ⟨by omega, by omega, by omega⟩
  · rcases List.mem_append.1 hy with hy | hy
    · exact ⟨(h.apX y hy).1, (h.apX y hy).2.1, (h.apX y hy).2.2.1, fun e => (h.apX y hy).2.2.2 (hvn y.g (hyl y hy) e)⟩
    · rw [List.mem_singleton.1 hy]
      exact ⟨hxg.1, hxg.2.1, hxg.2.2.1, fun e => hxg.2.2.2 (hvn x.g hxl e)⟩

set_option maxHeartbeats 4000000 in
theorem take_walk (b tb kb k z : Nat) (p : PS) (T : List Nat) (vW : Value) (X : List Wtr) (seed : Nat) (data : ByteArray) (w : World) (h : PQ w b tb kb k z p T vW X) (hf : fD k z seed data.size = 0) (hm : seed ∉ T) (h60 : T.length < 60) :
    Calls Tryd.prog 7 #[.pointer (some ⟨b, 0, none⟩), dropV seed data] w fun e w' => ∃ v q vW' X', e = .returned (.tuple #[v, .nilIface]) ∧ Peels (setL k) ⟨p.known, p.B, p.L ++ [(seed, data)]⟩ q ∧ Lsh w' v (came k p.known q.known) ∧ PQ w' b tb kb k z q (T ++ [seed]) vW' X' ∧ Kept (PF b tb kb vW X) w w' ∧ ∀ i, PF b tb kb vW' X' i → PF b tb kb vW X i ∨ w.heap.size ≤ i := by
  have hb0 : Below w.heap.size w (w.alloc (.cells #[.int .i64 (seed : Nat), .string data] 32)) := (Below.refl _ _).alloc (Nat.le_refl _) _
  have HB0 := hide hb0
  have H := hide h
  have hd := fD_ok hf
  have hsd : 1 ≤ seed ∧ seed ≤ 10000 := by have := hd.1; unfold OkD at this; omega
  have hdz : Hid (data.size = z) := by have := hd.2; unfold Hid; omega
  have hdi := (dropIn_new w seed data)
  have HDI := hide hdi
  obtain ⟨⟨cs, _⟩, cd, _⟩ := hdi
  simp only [Nat.zero_add] at cd
  have hck := cell_below hb0 h.ck
  have hcz := cell_below hb0 h.cz
  have DC := hide (fun W => dcheck_ok k z seed data W hd.1.1 hd.1.2.1 hd.1.2.2 hd.2)
  have hnk := h.nk
  have hnz := h.nz
  have hbl := h.flt b (Or.inl rfl)
  clear h hb0 hd
  unfold dropV at *
  go_enter Tryd.func7, Tryd.ntmps7
  go_wp2_with fail
  go_region_held3 (fun w' => w'.cell? ⟨b, 0, none⟩ = some (.int .i64 k) ∧ w'.cell? ⟨b, 1, none⟩ = some (.int .i64 z) ∧ w'.cell? ⟨w.heap.size, 0, none⟩ = some (.int .i64 seed) ∧ w'.cell? ⟨w.heap.size, 1, none⟩ = some (.string data)) (first | go_keep | exact ⟨cell_below hb1 hck, cell_below hb1 hcz, cell_below hb1 cs, cell_below hb1 cd⟩)
    (first | (go_at_call 19; refine (DC.out _).mono ?_; rintro e w1 ⟨rfl, hb1⟩))
  have hb1' : Below w.heap.size w w1 := below_two HB0.out ⟨hb1.os, hb1.tape, hb1.output, hb1.size, hb1.block⟩
  have HB1 := hide hb1'
  have H1 := hide (H.out.below hb1')
  have HD1 := hide (HDI.out.below (w' := w1) ⟨hb1.os, hb1.tape, hb1.output, hb1.size, hb1.block⟩)
  obtain ⟨⟨cs1, _⟩, cd1, _⟩ := HD1.out
  simp only [Nat.zero_add] at cd1
  have hct := H1.out.ct
  obtain ⟨Dt, ht⟩ := H1.out.tk
  have HT := hide ht
  have hl1 := (ht.of_block (w' := w1.drew) rfl).look hsd.2
  have hl2 := ((ht.alloc (.cells #[] 61)).of_block (w' := (w1.alloc (.cells #[] 61)).drew) rfl).look hsd.2
  have hba : Below w1.heap.size w1 (w1.alloc (.cells #[] 61)) := (Below.refl _ _).alloc (Nat.le_refl _) _
  have hct2 := cell_below hba hct
  have hcs2 := cell_below hba cs1
  rw [decide_eq_false hm] at hl1 hl2
  clear hb1 hb1' ht hck hcz cs cd DC HDI
  go_upto_region 4 with fail
  go_cut [8] (fun t wx => t = .bool false ∧ Below w1.heap.size w1 wx)
  case first =>
    go_region
    all_goals
      go_wp2_with fail
      go_meet
      exact ⟨rfl, hba.drew⟩
  case rest =>
  obtain ⟨rfl, hb2⟩ := hcut
  have HB2 := hide hb2
  have H2 := hide (H1.out.below hb2)
  have HD2 := hide (HD1.out.below hb2)
  obtain ⟨⟨cs2, _⟩, cd2, _⟩ := HD2.out
  simp only [Nat.zero_add] at cd2
  have hct2 := H2.out.ct
  have hck2 := H2.out.ck
  obtain ⟨Dt2, ht2⟩ := H2.out.tk
  have HT2 := hide ht2
  have hlen2 := ht2.2.1
  have hl60 : (Maps.size Dt2 : Int) < 60 := by omega
  have ST := hide (fun W => set_new k seed W hnk.1 hnk.2 hsd.1 hsd.2)
  clear hb2 ht2 hl1 hl2 hba hct hcs2 cs1 cd1 HD1 HT
  generalize wc = w2 at *
  go_upto_region 9 with (at_len; refine wpList_len_own _ rfl _ 55 rfl 3 61 Tryd.underlying55 _ tb T.length Dt2 rfl HT2.out.1 ?_)
  go_region_held3 (fun w' => w'.cell? ⟨b, 0, none⟩ = some (.int .i64 k) ∧ w'.cell? ⟨w.heap.size, 0, none⟩ = some (.int .i64 seed)) (first | go_keep | exact ⟨cell_below hb3 hck2, cell_below hb3 cs2⟩)
    (first | (go_at_call 20; refine (ST.out _).mono ?_; rintro e w3 ⟨v3, rfl, hl3, hb3, hn3⟩))
  have hb3' : Below w2.heap.size w2 w3 := ⟨hb3.os, hb3.tape, hb3.output, hb3.size, hb3.block⟩
  have hn3' : ∀ i, v3.ownBlock = some i → w2.heap.size ≤ i := hn3
  have H3 := hide (H2.out.below hb3')
  have HD3 := hide (HD2.out.below hb3')
  have HB3 := hide (below_two (below_two HB1.out HB2.out) hb3')
  have HL3 := hide hl3
  have HN3 : Hid (∀ i, v3.ownBlock = some i → ¬ PF b tb kb vW X i) := fun i e hp => by have := H2.out.flt i hp; have := hn3' i e; omega
  obtain ⟨g3, c3, hv3, hq3, hm3, hcell3⟩ := hl3
  subst hv3
  have HG3 : Hid (w.heap.size ≤ g3) := Nat.le_trans (below_two HB1.out HB2.out).size (hn3' g3 rfl)
  have hct3 := H3.out.ct
  obtain ⟨⟨cs3, _⟩, cd3, _⟩ := HD3.out
  simp only [Nat.zero_add] at cd3
  obtain ⟨Dt3, ht3⟩ := H3.out.tk
  obtain ⟨w4, hrun4, hown4, hgrow4⟩ := (ht3.of_block (w' := w3.drew) rfl).1.update Tryd.lawInt Tryd.underlying55 (by unfold maxLen; omega) (key16 hsd.2) unitElem_mk
  have H4 := hide (PQ.took (w := w3) (w1 := w4) H3.out ⟨hgrow4.os, hgrow4.tape, hgrow4.output, hgrow4.size, hgrow4.block⟩ ht3 hm h60 hown4)
  unfold maxLen at hm3
  clear hb3 hb3' hn3 hn3' hct2 hck2 cs2 cd2 HT2 HD2 ST hown4 ht3
  go_upto_region 12 with fail
  go_cut [61] (fun t wx => t = .int .i64 (seed : Nat) ∧ wx = w4)
  case first =>
    go_region
    all_goals
      go_wp2_with fail
      go_meet
      exact ⟨rfl, rfl⟩
  case rest =>
  obtain ⟨_, rfl⟩ := hcut
  have htw : tb < w.heap.size := H.out.flt tb (Or.inr (Or.inl rfl))
  have hg4 : w3.grownBy wc (some tb) := ⟨hgrow4.os, hgrow4.tape, hgrow4.output, hgrow4.size, hgrow4.block⟩
  have hl4 : Lst wc (.slice (some ⟨g3, 0, none⟩) (setL k seed).length c3) (setL k seed) := HL3.out.of_block (hg4.block g3 (cell_lt (hcell3 0 (setL_len hnk.1 hnk.2 hsd.1 hsd.2).1)) (fun e => HN3.out g3 rfl (Or.inr (Or.inl (by cases e; rfl)))))
  have hd4 : DropIn wc w.heap.size seed data := HD3.out.of_block (hg4.block _ HD3.out.lt (fun e => by cases e; omega))
  have hg3l : g3 < wc.heap.size := by
    obtain ⟨g', _, hv', _, _, hc'⟩ := hl4
    injection hv' with e; injection e with e; injection e with e
    rw [e]; exact cell_lt (hc' 0 (setL_len hnk.1 hnk.2 hsd.1 hsd.2).1)
  have HK4 : Hid (Kept (PF b tb kb vW X) w wc) := ((Kept.refl _ w).below HB3.out).grown hg4 fun i e => Or.inl (Or.inr (Or.inl (by cases e; rfl)))
  have HL4 := hide hl4
  obtain ⟨⟨cs4, _⟩, cd4, _⟩ := hd4
  simp only [Nat.zero_add] at cd4
  obtain ⟨aW, cW, hvW, hW1, hW2, _⟩ := own_wtrs H4.out.row
  have HVW := hide hvW
  have hcw4 := H4.out.cw
  rw [hvW] at hcw4
  have hcf4 := H4.out.cf
  have hX60 : X.length < 60 := by have := H3.out.len; have := H3.out.few; omega
  have hd8 : data.size ≤ 281474976710656 := by have := hdz.out; omega
  have CL := hide (fun W => strings_Clone data W hd8)
  have hbc : b < wc.heap.size := H4.out.flt b (Or.inl rfl)
  obtain ⟨i0, hi0, hz0, hz1, hz2⟩ := info_parts Tryd.infoWtr
  have Hi := hide hi0
  have Hz0 := hide hz0
  have Hz1 := hide hz1
  have Hz2 := hide hz2
  have HaB : Hid ((Value.slice aW X.length cW).ownBlock ≠ some b) := fun e => (H4.out.apW b (by rw [HVW.out]; exact e)).1 rfl
  unfold maxLen at hW2
  clear hcell3 hl4 hg4 hgrow4 hrun4 hct3 cs3 cd3 hi0 hz0 hz1 hz2 hvW HD3 HL3 htw
  go_upto_region 13 with fail
  go_cut [74] (fun t wx => ∃ gv cv, t = .slice (some ⟨gv, 0, none⟩) (X.length + 1) cv ∧ PQ wx b tb kb k z ⟨p.known, p.B, p.L ++ [(seed, data)]⟩ (T ++ [seed]) t (X ++ [⟨g3, (setL k seed).length, c3, (seed, data)⟩]) ∧ Kept (PF b tb kb vW X) w wx ∧ (t.ownBlock = vW.ownBlock ∨ ∃ i, t.ownBlock = some i ∧ w.heap.size ≤ i))
  case first =>
    go_region_law ((first
      | (refine step_append_lies _ (by rfl) _ _ _ (by rfl) 0 66 i0 _ 2 40 Tryd.underlying57 Hi.out Hz0.out Hz1.out Hz2.out rfl (by omega) (.slice aW X.length cW) X.length (wC X) (by rfl) HO5.out.row
          ⟨w5.heap.size, 0, none⟩ 1 1 [.slice (some ⟨g3, 0, none⟩) (setL k seed).length c3, .string data] (by rfl) (by rfl) (World.news_of_block (cs := #[.slice (some ⟨g3, 0, none⟩) (setL k seed).length c3, .string data]) (t := 66) (fr := (0, 0)) (heap_alloc_new w5 _)) (by simp [Value.oneCell'])
          (by omega) (by unfold maxLen; omega) (by omega) (by simp) (w5.heap.size + 1) (by simp) ?_; intro gg cap w6 hown6 hgrow6 hat hlt; have hfz : w6.frozen? ⟨b, 4, none⟩ = false := (hgrow6.frozen_far ⟨b, 4, none⟩ (by simp; omega) (Ne.symm HaB.out)).trans HO5.out.cf; have hcz : w6.cell? ⟨b, 4, none⟩ = some (.slice aW X.length cW) := (hgrow6.cell_far ⟨b, 4, none⟩ (by simp; omega) (Ne.symm HaB.out)).trans HO5.out.cw)
      | (rw [if_pos (by rfl)]; go_simp; go_at_call 21; refine (CL.out _).mono ?_; rintro e w5 ⟨rfl, hb5⟩; have hb5' : Below wc.heap.size wc w5 := ⟨hb5.os, hb5.tape, hb5.output, hb5.size, hb5.block⟩; have hb5s := hb5'.size; have HO5 := hide ((HVW.out ▸ H4.out.below hb5').below ((Below.refl _ w5).alloc (Nat.le_refl _) (.cells #[.slice (some ⟨g3, 0, none⟩) (setL k seed).length c3, .string data] 66))); have hcw5 := cell_below hb5' hcw4; have hcw6 := HO5.out.cw)))
    all_goals
      go_wp2_with fail
      go_meet
      have hbA : Below wc.heap.size wc (w5.alloc (.cells #[.slice (some ⟨g3, 0, none⟩) (setL k seed).length c3, .string data] 66)) := hb5'.alloc hb5s _
      refine ⟨gg, cap, rfl, ?_, ?_, ?_⟩
      · refine PQ.add (x := ⟨g3, (setL k seed).length, c3, (seed, data)⟩) HO5.out hgrow6 ?_ ?_ (HL4.out.below hbA) (Nat.lt_of_lt_of_le hg3l hbA.size) ?_ ⟨hsd.1, hsd.2, hdz.out⟩ ?_
        · rw [List.length_append, wC_snoc]; exact hown6
        · rcases hat with e | e
          · exact Or.inl e.symm
          · exact Or.inr ⟨gg, rfl, by rw [e]; simp⟩
        · rw [← HVW.out]; exact HN3.out g3 rfl
        · rw [List.length_append]
          have := H3.out.few
          simp; omega
      · refine ((HK4.out.below hbA).grown hgrow6 fun i e => Or.inl (Or.inr (Or.inr (Or.inr (Or.inl (by rw [HVW.out]; exact e)))))).setCell ⟨b, 4, none⟩ _ (Or.inl (Or.inl rfl))
      · rcases hat with e | e
        · exact Or.inl (by rw [HVW.out]; exact e.symm)
        · exact Or.inr ⟨gg, rfl, by rw [e]; have := HK4.out.size; omega⟩
  case rest =>
  obtain ⟨gv, cv, hveq, hQ5, hK5, hat5⟩ := hcut
  have PL := hide (peel_ok b tb kb k z _ _ _ _ _ hQ5)
  have HQ5 := hide hQ5
  have HK5 := hide hK5
  have HA5 := hide hat5
  clear hveq hQ5 hK5 hat5
  go_wp2_with fail
  refine (PL.out).mono ?_
  rintro e w7 ⟨v7, rfl, q, X7, vW7, hp7, hl7, hq7, ho7, hx7, hk7, hf7⟩
  have HP7 := hide hp7
  have HL7 := hide hl7
  have HQ7 := hide hq7
  have HO7 := hide ho7
  have HX7 := hide hx7
  have HK7 := hide hk7
  clear hp7 hl7 hq7 ho7 hx7 hk7 hf7
  go_wp2
  go_ret2
  refine ⟨_, q, vW7, X7, rfl, HP7.out, HL7.out, HQ7.out, ?_, fun i hi => ?_⟩
  · refine ⟨HK7.out.os.trans HK5.out.os, HK7.out.tape.trans HK5.out.tape, HK7.out.output.trans HK5.out.output, Nat.le_trans HK5.out.size HK7.out.size, fun i hi hn => (HK7.out.block i (Nat.lt_of_lt_of_le hi HK5.out.size) fun e => ?_).trans (HK5.out.block i hi hn)⟩
    rcases e with e | e | e
    · exact hn (Or.inl e)
    · exact hn (Or.inr (Or.inr (Or.inl e)))
    · rcases HA5.out with e2 | ⟨j, e2, hj⟩
      · exact hn (Or.inr (Or.inr (Or.inr (Or.inl (e2 ▸ e)))))
      · rw [e] at e2; cases e2; omega
  · rcases hi with e | e | e | e | ⟨y, hy, e⟩
    · exact Or.inl (Or.inl e)
    · exact Or.inl (Or.inr (Or.inl e))
    · exact Or.inl (Or.inr (Or.inr (Or.inl e)))
    · rw [HO7.out] at e
      rcases HA5.out with e2 | ⟨j, e2, hj⟩
      · exact Or.inl (Or.inr (Or.inr (Or.inr (Or.inl (e2 ▸ e)))))
      · rw [e] at e2; cases e2; exact Or.inr hj
    · rcases List.mem_append.1 (HX7.out y hy) with h9 | h9
      · exact Or.inl (Or.inr (Or.inr (Or.inr (Or.inr ⟨y, h9, e⟩))))
      · rw [List.mem_singleton.1 h9] at e
        exact Or.inr (by rw [e]; exact HG3.out)
end Go.Proofs.YtopibfbpecjgbaaDoor

namespace Go.Proofs.YtopibfbpecjgbaaDoor
open Go.RowKit Go.Maps
set_option linter.unusedVariables false
set_option maxRecDepth 100000

set_option maxHeartbeats 2000000 in
theorem take_check (b tb kb k z : Nat) (p : PS) (T : List Nat) (vW : Value) (X : List Wtr) (seed : Int) (data : ByteArray) (w : World) (h : PQ w b tb kb k z p T vW X) (hf : fD k z seed data.size ≠ 0) :
    Calls Tryd.prog 7 #[.pointer (some ⟨b, 0, none⟩), dropV seed data] w fun e w' => e = .returned (.tuple #[.slice none 0 0, .iface 54 (.int .i64 (fD k z seed data.size))]) ∧ Below w.heap.size w w' := by
  have hb0 : Below w.heap.size w (w.alloc (.cells #[.int .i64 seed, .string data] 32)) := (Below.refl _ _).alloc (Nat.le_refl _) _
  have HB0 := hide hb0
  have hdi := (dropIn_new w seed data)
  obtain ⟨⟨cs, _⟩, cd, _⟩ := hdi
  simp only [Nat.zero_add] at cd
  have hck := cell_below hb0 h.ck
  have hcz := cell_below hb0 h.cz
  have DC : Hid (∀ W, Calls Tryd.prog 19 #[.int .i64 k, .int .i64 z, .agg #[.int .i64 seed, .string data]] W fun e w' => e = .returned (.iface 54 (.int .i64 (fD k z seed data.size))) ∧ Below W.heap.size W w') := fun W => by
    refine (dcheck_any k z seed data W).mono ?_
    rintro e w' ⟨er, rfl, he, hb⟩
    rcases he with ⟨h0, _⟩ | rfl
    · exact absurd h0 hf
    · exact ⟨rfl, hb⟩
  have hbl := h.flt b (Or.inl rfl)
  clear h hb0 hf
  generalize fD k z seed data.size = x at *
  unfold dropV
  go_enter Tryd.func7, Tryd.ntmps7
  go_wp2_with fail
  go_region_held3 (fun w' => w'.cell? ⟨b, 0, none⟩ = some (.int .i64 k) ∧ w'.cell? ⟨b, 1, none⟩ = some (.int .i64 z) ∧ w'.cell? ⟨w.heap.size, 0, none⟩ = some (.int .i64 seed) ∧ w'.cell? ⟨w.heap.size, 1, none⟩ = some (.string data)) (first | go_keep | exact ⟨cell_below hb1 hck, cell_below hb1 hcz, cell_below hb1 cs, cell_below hb1 cd⟩)
    (first | (go_at_call 19; refine (DC.out _).mono ?_; rintro e w1 ⟨rfl, hb1⟩))
  have HB1 := hide (below_two HB0.out (show Below _ _ w1 from ⟨hb1.os, hb1.tape, hb1.output, hb1.size, hb1.block⟩))
  clear hb1
  go_wp2
  go_ret2
  exact ⟨rfl, HB1.out⟩

set_option maxHeartbeats 4000000 in
theorem take_clash (b tb kb k z : Nat) (p : PS) (T : List Nat) (vW : Value) (X : List Wtr) (seed : Nat) (data : ByteArray) (w : World) (h : PQ w b tb kb k z p T vW X) (hf : fD k z seed data.size = 0) (hm : seed ∈ T) :
    Calls Tryd.prog 7 #[.pointer (some ⟨b, 0, none⟩), dropV seed data] w fun e w' => e = .returned (.tuple #[.slice none 0 0, .iface 54 (.int .i64 7)]) ∧ Below w.heap.size w w' := by
  have hb0 : Below w.heap.size w (w.alloc (.cells #[.int .i64 (seed : Nat), .string data] 32)) := (Below.refl _ _).alloc (Nat.le_refl _) _
  have HB0 := hide hb0
  have H := hide h
  have hd := fD_ok hf
  have hsd : 1 ≤ seed ∧ seed ≤ 10000 := by have := hd.1; unfold OkD at this; omega
  have hdz : Hid (data.size = z) := by have := hd.2; unfold Hid; omega
  have hdi := (dropIn_new w seed data)
  have HDI := hide hdi
  obtain ⟨⟨cs, _⟩, cd, _⟩ := hdi
  simp only [Nat.zero_add] at cd
  have hck := cell_below hb0 h.ck
  have hcz := cell_below hb0 h.cz
  have DC := hide (fun W => dcheck_ok k z seed data W hd.1.1 hd.1.2.1 hd.1.2.2 hd.2)
  have hnk := h.nk
  have hnz := h.nz
  have hbl := h.flt b (Or.inl rfl)
  clear h hb0 hd
  unfold dropV at *
  go_enter Tryd.func7, Tryd.ntmps7
  go_wp2_with fail
  go_region_held3 (fun w' => w'.cell? ⟨b, 0, none⟩ = some (.int .i64 k) ∧ w'.cell? ⟨b, 1, none⟩ = some (.int .i64 z) ∧ w'.cell? ⟨w.heap.size, 0, none⟩ = some (.int .i64 seed) ∧ w'.cell? ⟨w.heap.size, 1, none⟩ = some (.string data)) (first | go_keep | exact ⟨cell_below hb1 hck, cell_below hb1 hcz, cell_below hb1 cs, cell_below hb1 cd⟩)
    (first | (go_at_call 19; refine (DC.out _).mono ?_; rintro e w1 ⟨rfl, hb1⟩))
  have hb1' : Below w.heap.size w w1 := below_two HB0.out ⟨hb1.os, hb1.tape, hb1.output, hb1.size, hb1.block⟩
  have HB1 := hide hb1'
  have H1 := hide (H.out.below hb1')
  have HD1 := hide (HDI.out.below (w' := w1) ⟨hb1.os, hb1.tape, hb1.output, hb1.size, hb1.block⟩)
  obtain ⟨⟨cs1, _⟩, cd1, _⟩ := HD1.out
  simp only [Nat.zero_add] at cd1
  have hct := H1.out.ct
  obtain ⟨Dt, ht⟩ := H1.out.tk
  have HT := hide ht
  have hl1 := (ht.of_block (w' := w1.drew) rfl).look hsd.2
  have hl2 := ((ht.alloc (.cells #[] 61)).of_block (w' := (w1.alloc (.cells #[] 61)).drew) rfl).look hsd.2
  have hba : Below w1.heap.size w1 (w1.alloc (.cells #[] 61)) := (Below.refl _ _).alloc (Nat.le_refl _) _
  have hct2 := cell_below hba hct
  have hcs2 := cell_below hba cs1
  rw [decide_eq_true hm] at hl1 hl2
  clear hb1 hb1' ht hck hcz cs cd DC HDI
  go_upto_region 4 with fail
  go_cut [8] (fun t wx => t = .bool true ∧ Below w1.heap.size w1 wx)
  case first =>
    go_region
    all_goals
      go_wp2_with fail
      go_meet
      exact ⟨rfl, hba.drew⟩
  case rest =>
  obtain ⟨rfl, hb2⟩ := hcut
  have HB2 := hide (below_two HB1.out hb2)
  clear hl1 hl2 hba hct hct2 hcs2 cs1 cd1
  go_wp2
  go_ret2
  exact ⟨rfl, HB2.out⟩

set_option maxHeartbeats 4000000 in
theorem take_full (b tb kb k z : Nat) (p : PS) (T : List Nat) (vW : Value) (X : List Wtr) (seed : Nat) (data : ByteArray) (w : World) (h : PQ w b tb kb k z p T vW X) (hf : fD k z seed data.size = 0) (hm : seed ∉ T) (h60 : 60 ≤ T.length) :
    Calls Tryd.prog 7 #[.pointer (some ⟨b, 0, none⟩), dropV seed data] w fun e w' => e = .returned (.tuple #[.slice none 0 0, .iface 54 (.int .i64 4)]) ∧ Below w.heap.size w w' := by
  have hb0 : Below w.heap.size w (w.alloc (.cells #[.int .i64 (seed : Nat), .string data] 32)) := (Below.refl _ _).alloc (Nat.le_refl _) _
  have HB0 := hide hb0
  have H := hide h
  have hd := fD_ok hf
  have hsd : 1 ≤ seed ∧ seed ≤ 10000 := by have := hd.1; unfold OkD at this; omega
  have hdz : Hid (data.size = z) := by have := hd.2; unfold Hid; omega
  have hdi := (dropIn_new w seed data)
  have HDI := hide hdi
  obtain ⟨⟨cs, _⟩, cd, _⟩ := hdi
  simp only [Nat.zero_add] at cd
  have hck := cell_below hb0 h.ck
  have hcz := cell_below hb0 h.cz
  have DC := hide (fun W => dcheck_ok k z seed data W hd.1.1 hd.1.2.1 hd.1.2.2 hd.2)
  have hnk := h.nk
  have hnz := h.nz
  have hbl := h.flt b (Or.inl rfl)
  clear h hb0 hd
  unfold dropV at *
  go_enter Tryd.func7, Tryd.ntmps7
  go_wp2_with fail
  go_region_held3 (fun w' => w'.cell? ⟨b, 0, none⟩ = some (.int .i64 k) ∧ w'.cell? ⟨b, 1, none⟩ = some (.int .i64 z) ∧ w'.cell? ⟨w.heap.size, 0, none⟩ = some (.int .i64 seed) ∧ w'.cell? ⟨w.heap.size, 1, none⟩ = some (.string data)) (first | go_keep | exact ⟨cell_below hb1 hck, cell_below hb1 hcz, cell_below hb1 cs, cell_below hb1 cd⟩)
    (first | (go_at_call 19; refine (DC.out _).mono ?_; rintro e w1 ⟨rfl, hb1⟩))
  have hb1' : Below w.heap.size w w1 := below_two HB0.out ⟨hb1.os, hb1.tape, hb1.output, hb1.size, hb1.block⟩
  have HB1 := hide hb1'
  have H1 := hide (H.out.below hb1')
  have HD1 := hide (HDI.out.below (w' := w1) ⟨hb1.os, hb1.tape, hb1.output, hb1.size, hb1.block⟩)
  obtain ⟨⟨cs1, _⟩, cd1, _⟩ := HD1.out
  simp only [Nat.zero_add] at cd1
  have hct := H1.out.ct
  obtain ⟨Dt, ht⟩ := H1.out.tk
  have HT := hide ht
  have hl1 := (ht.of_block (w' := w1.drew) rfl).look hsd.2
  have hl2 := ((ht.alloc (.cells #[] 61)).of_block (w' := (w1.alloc (.cells #[] 61)).drew) rfl).look hsd.2
  have hba : Below w1.heap.size w1 (w1.alloc (.cells #[] 61)) := (Below.refl _ _).alloc (Nat.le_refl _) _
  have hct2 := cell_below hba hct
  have hcs2 := cell_below hba cs1
  rw [decide_eq_false hm] at hl1 hl2
  clear hb1 hb1' ht hck hcz cs cd DC HDI
  go_upto_region 4 with fail
  go_cut [8] (fun t wx => t = .bool false ∧ Below w1.heap.size w1 wx)
  case first =>
    go_region
    all_goals
      go_wp2_with fail
      go_meet
      exact ⟨rfl, hba.drew⟩
  case rest =>
  obtain ⟨rfl, hb2⟩ := hcut
  have HB2 := hide (below_two HB1.out hb2)
  have H2 := hide (H1.out.below hb2)
  have hct9 := H2.out.ct
  obtain ⟨Dt2, ht2⟩ := H2.out.tk
  have HT2 := hide ht2
  have hlen2 := ht2.2.1
  have hl60 : (60 : Int) ≤ (Maps.size Dt2 : Int) := by omega
  clear ht2 hl1 hl2 hba hct hct2 hcs2 cs1 cd1
  generalize wc = w2 at *
  go_wp2_with (at_len; refine wpList_len_own _ rfl _ 55 rfl 3 61 Tryd.underlying55 _ tb T.length Dt2 rfl HT2.out.1 ?_)
  go_ret2
  exact ⟨rfl, HB2.out⟩

set_option maxHeartbeats 1000000 in
theorem waits_walk (b tb kb k z : Nat) (p : PS) (T : List Nat) (vW : Value) (X : List Wtr) (w : World) (h : PQ w b tb kb k z p T vW X) :
    Calls Tryd.prog 14 #[.pointer (some ⟨b, 0, none⟩)] w fun e w' => e = .returned (.int .i64 (p.L.length : Nat)) ∧ Below w.heap.size w w' := by
  obtain ⟨aW, cW, hvW, hW1, hW2, _⟩ := own_wtrs h.row
  have hcw := h.cw
  rw [hvW] at hcw
  have HL := hide h.len
  clear h hvW
  unfold maxLen at hW2
  go_enter Tryd.func14, Tryd.ntmps14
  go_wp2
  go_ret
  exact ⟨ret_int (by rw [HL.out]), Below.refl _ _⟩

set_option maxHeartbeats 1000000 in
theorem block_walk (b tb kb k z : Nat) (p : PS) (T : List Nat) (vW : Value) (X : List Wtr) (i : Int) (w : World) (h : PQ w b tb kb k z p T vW X) :
    Calls Tryd.prog 8 #[.pointer (some ⟨b, 0, none⟩), .int .i64 i] w fun e w' => ∃ err, e = .returned (.tuple #[.string (bS k p i), err]) ∧ ErrIs (bF k p i) err ∧ Below w.heap.size w w' := by
  have hck := h.ck
  have hcn := h.cn
  obtain ⟨D, hD⟩ := h.kn
  have HD := hide hD
  have hnk := h.nk
  have HG : Hid (∀ r, p.known r = true → (p.B r).size ≤ 8) := fun r hr => by have := h.good.2 r hr; have := h.nz; omega
  clear h hD
  by_cases c : i < 0 ∨ (k : Int) ≤ i
  · have e1 : bS k p i = ⟨#[]⟩ := by unfold bS; rw [if_pos c]
    have e2 : bF k p i = 1 := by unfold bF; rw [if_pos c]
    rw [e1, e2]
    clear e1 e2
    by_cases c0 : i < 0
    · clear c
      go_enter Tryd.func8, Tryd.ntmps8
      go_wp2
      go_ret2
      exact ⟨_, rfl, Or.inr rfl, Below.refl _ _⟩
    · have c1 : (k : Int) ≤ i := c.resolve_left c0
      clear c
      go_enter Tryd.func8, Tryd.ntmps8
      go_wp2
      go_ret2
      exact ⟨_, rfl, Or.inr rfl, Below.refl _ _⟩
  · obtain ⟨r, rfl⟩ := Int.eq_ofNat_of_zero_le (show 0 ≤ i by omega)
    have hr : r < k := by omega
    have c0 : ¬ (r : Int) < 0 := by omega
    have c1 : ¬ (k : Int) ≤ (r : Int) := by omega
    cases hk : p.known r with
    | true =>
      have e1 : bS k p (r : Int) = p.B r := by unfold bS; rw [if_neg c]; simp [hk]
      have e2 : bF k p (r : Int) = 0 := by unfold bF; rw [if_neg c]; simp [hk]
      rw [e1, e2]
      have HK := hide hk
      have CL := hide (fun W => strings_Clone (p.B r) W (by have := HG.out r hk; omega))
      clear e1 e2 c hk
      go_enter Tryd.func8, Tryd.ntmps8
      go_wp2_with (first | (at_lookup; refine wpList_lookup_blk rfl _ _ rfl kb k r p.known p.B D rfl rfl HD.out (by omega) ?_; intro s hs; rw [HK.out, hs HK.out]) | fail)
      refine (CL.out _).mono ?_
      rintro e w1 ⟨rfl, hb1⟩
      have HB1 := hide (below_two ((Below.refl _ w).alloc (Nat.le_refl _) (.cells #[.string (p.B r)] 69)) hb1)
      clear hb1
      go_wp2
      go_ret2
      exact ⟨_, rfl, Or.inl ⟨rfl, rfl⟩, HB1.out⟩
    | false =>
      have e1 : bS k p (r : Int) = ⟨#[]⟩ := by unfold bS; rw [if_neg c]; simp [hk]
      have e2 : bF k p (r : Int) = 5 := by unfold bF; rw [if_neg c]; simp [hk]
      rw [e1, e2]
      have HK := hide hk
      clear e1 e2 c hk
      go_enter Tryd.func8, Tryd.ntmps8
      go_wp2_with (first | (at_lookup; refine wpList_lookup_blk rfl _ _ rfl kb k r p.known p.B D rfl rfl HD.out (by omega) ?_; intro s hs; rw [HK.out]) | fail)
      go_ret2
      exact ⟨_, rfl, Or.inr rfl, (Below.refl _ w).alloc (Nat.le_refl _) _⟩

set_option maxHeartbeats 2000000 in
theorem knows_walk (b tb kb k z : Nat) (p : PS) (T : List Nat) (vW : Value) (X : List Wtr) (w : World) (h : PQ w b tb kb k z p T vW X) :
    Calls Tryd.prog 12 #[.pointer (some ⟨b, 0, none⟩)] w fun e w' => ∃ v, e = .returned v ∧ Lsh w' v (knows k p.known) ∧ Below w.heap.size w w' := by
  have hck := h.ck
  have HC := hide h.cn
  obtain ⟨D, hD⟩ := h.kn
  have HD := hide hD
  have hk2 := h.nk.2
  clear h hD
  generalize p.known = kn at *
  generalize p.B = Bq at *
  obtain ⟨i0, hi, hz0, hz1, hz2⟩ := info_parts Tryd.infoInt
  have Hi := hide hi
  have Hz0 := hide hz0
  have Hz1 := hide hz1
  have Hz2 := hide hz2
  clear hi hz0 hz1 hz2
  go_enter Tryd.func12, Tryd.ntmps12
  go_wp2
  go_loopw [3, 4, 9] (fun v _ i wr => ∃ j : Nat, j ≤ k ∧ i = .int .i64 j ∧ wr.ownsRow w.heap.size 3 1 v (knows j kn).length (toV (knows j kn)) ∧ Below w.heap.size w wr) (fun _ _ i _ => k - (intOf i).toNat)
  case atStart => exact ⟨0, Nat.zero_le _, rfl, World.ownsRow_nil _ _ _ _, Below.refl _ _⟩
  case round =>
    obtain ⟨j, hj, rfl, hA, hb⟩ := hrel
    have HA := hide hA
    have HB := hide hb
    have hl := knows_len j kn
    clear hA
    by_cases hlt : j < k
    · have hjk : (j : Int) < (k : Int) := by omega
      have KN := hide (pknows_ok b kb k j kn Bq D wr (cell_below hb HC.out) (HD.out.below hb) (by omega))
      have HK := hide (knows_succ kn j)
      clear hb
      generalize knows j kn = F at *
      go_wp2_with fail
      refine (KN.out).mono ?_
      rintro e w1 ⟨rfl, hb1⟩
      have HA1 := hide (own_under' HA.out hb1)
      have HB1 := hide (below_two HB.out hb1)
      have hbs := HB1.out.size
      clear hb1
      cases hx : kn j with
      | true =>
        rw [Hid, hx, if_pos rfl] at HK
        have HK' := hide HK
        clear hx HK
        go_wp2_with (first | (at_builtin; refine wpList_append_own _ rfl _ _ 23 rfl w.heap.size 3 i0 (.int .i64 0) 1 8 Tryd.underlying23 Hi.out Hz0.out Hz1.out Hz2.out rfl (by decide) _ _ _ rfl (HA1.out.alloc _) ⟨w1.heap.size, 0, none⟩ 1 1 [.int .i64 (j : Nat)] rfl rfl (cell_one_new _ _ _) (fun x hx => by simp at hx; subst hx; rfl) (by unfold maxLen; omega) (by omega) (by simp; omega) ?_; intro v3 w3 hown3 hgrow3 hnil3) | go_in)
        go_roundw
        case rel =>
          have R : j + 1 ≤ k ∧ Value.int .i64 ((j : Int) + 1) = .int .i64 ((j + 1 : Nat) : Int) ∧ w3.ownsRow w.heap.size 3 1 v3 (knows (j + 1) kn).length (toV (knows (j + 1) kn)) ∧ Below w.heap.size w w3 := by
            refine ⟨by omega, by simp, ?_, (HB1.out.alloc hbs _).grown hgrow3 (by simp; omega) (fun q hq => (HA1.out.lt q hq).1)⟩
            rw [HK'.out, List.length_append, show toV (F ++ [j]) = toV F ++ [.int .i64 (j : Nat)] by simp [toV]]
            exact hown3
          first
            | exact ⟨j + 1, R⟩
            | ((repeat apply Exists.intro); exact ⟨⟨j + 1, R⟩, rfl⟩)
        case measure => simp [intOf]; omega
      | false =>
        rw [Hid, hx] at HK
        simp only [Bool.false_eq_true, if_false, List.append_nil] at HK
        have HK' := hide HK
        clear hx HK
        go_wp2_with go_in
        go_roundw
        case rel => exact ⟨j + 1, by omega, by go_num, by rw [HK'.out]; exact HA1.out, HB1.out⟩
        case measure => simp [intOf]; omega
    · obtain rfl : j = k := by omega
      have hjk : ¬ (j : Int) < (j : Int) := by omega
      have HLs := hide (own_lsh HA.out)
      go_wp2
      go_ret
      exact ⟨_, rfl, HLs.out, hb⟩

set_option maxHeartbeats 1000000 in
theorem new_range' (k z : Int) (w : World) (h : ¬ ((1 ≤ k ∧ k ≤ 16) ∧ 1 ≤ z ∧ z ≤ 8)) : Calls Tryd.prog 6 #[.int .i64 k, .int .i64 z] w fun e w' => e = .returned (.tuple #[.pointer none, .iface 54 (.int .i64 1)]) ∧ Below w.heap.size w w' := by
  by_cases h1 : k < 1
  · clear h
    go_enter Tryd.func6, Tryd.ntmps6
    go_wp2
    go_ret2
    exact ⟨rfl, Below.refl _ _⟩
  · by_cases h2 : 16 < k
    · clear h
      go_enter Tryd.func6, Tryd.ntmps6
      go_wp2
      go_ret2
      exact ⟨rfl, Below.refl _ _⟩
    · by_cases h3 : z < 1
      · clear h
        go_enter Tryd.func6, Tryd.ntmps6
        go_wp2
        go_ret2
        exact ⟨rfl, Below.refl _ _⟩
      · have h4 : 8 < z := by omega
        clear h
        go_enter Tryd.func6, Tryd.ntmps6
        go_wp2
        go_ret2
        exact ⟨rfl, Below.refl _ _⟩
/-- One that is new. -/
def newW (w : World) (k z : Nat) : World := ((w.alloc (.map #[] 0)).alloc (.map #[] 0)).alloc (.cells #[.int .i64 k, .int .i64 z, .map (some w.heap.size), .map (some (w.heap.size + 1)), .slice none 0 0] 59)
set_option maxHeartbeats 1000000 in
theorem new_walk (k z : Nat) (w : World) (h1 : 1 ≤ k) (h2 : k ≤ 16) (h3 : 1 ≤ z) (h4 : z ≤ 8) : Calls Tryd.prog 6 #[.int .i64 k, .int .i64 z] w fun e w' => e = .returned (.tuple #[.pointer (some ⟨w.heap.size + 2, 0, none⟩), .nilIface]) ∧ w' = newW w k z := by
  have e1 : ¬ (k : Int) < 1 := by omega
  have e2 : ¬ (16 : Int) < (k : Int) := by omega
  have e3 : ¬ (z : Int) < 1 := by omega
  have e4 : ¬ (8 : Int) < (z : Int) := by omega
  have hm1 := fun w => run_makeMap (P := Tryd.prog) 55 w
  have hm2 := fun w => run_makeMap (P := Tryd.prog) 56 w
  go_enter Tryd.func6, Tryd.ntmps6
  go_wp2
  go_ret2
  exact ⟨rfl, rfl⟩
end Go.Proofs.YtopibfbpecjgbaaDoor

namespace Go.Proofs.YtopibfbpecjgbaaDoor
open Go.RowKit Go.Maps
set_option linter.unusedVariables false
set_option maxRecDepth 100000

theorem newW_below (w : World) (k z : Nat) : Below w.heap.size w (newW w k z) := (((Below.refl _ w).alloc (Nat.le_refl _) _).alloc (by simp) _).alloc (by simp; omega) _
theorem newW_pq (w : World) (k z : Nat) (h1 : 1 ≤ k) (h2 : k ≤ 16) (h3 : 1 ≤ z) (h4 : z ≤ 8) : PQ (newW w k z) (w.heap.size + 2) w.heap.size (w.heap.size + 1) k z p0 [] (.slice none 0 0) [] := by
  have hs1 : (w.alloc (.map #[] 0)).heap.size = w.heap.size + 1 := by simp
  have hs2 : ((w.alloc (.map #[] 0)).alloc (.map #[] 0)).heap.size = w.heap.size + 2 := by simp
  have hh := (MapKept.heap_alloc ((w.alloc (.map #[] 0)).alloc (.map #[] 0)) (.cells #[.int .i64 k, .int .i64 z, .map (some w.heap.size), .map (some (w.heap.size + 1)), .slice none 0 0] 59)).1
  rw [hs2] at hh
  have hcell : ∀ i, (newW w k z).cell? ⟨w.heap.size + 2, i, none⟩ = (#[.int .i64 k, .int .i64 z, .map (some w.heap.size), .map (some (w.heap.size + 1)), .slice none 0 0] : Array Value)[i]? := fun i => cell_of_row _ _ i _ 59 (0, 0) hh
  have hf : ∀ i, (newW w k z).frozen? ⟨w.heap.size + 2, i, none⟩ = false := fun i => by unfold newW; simp only [World.frozen?, hh]; simp
  have hm := ((mset_made w).alloc (.map #[] 0)).alloc (.cells #[.int .i64 k, .int .i64 z, .map (some w.heap.size), .map (some (w.heap.size + 1)), .slice none 0 0] 59)
  have hk := (mkn_made (w.alloc (.map #[] 0)) k p0.B).below ((Below.refl _ _).alloc (Nat.le_refl _) (.cells #[.int .i64 k, .int .i64 z, .map (some w.heap.size), .map (some (w.heap.size + 1)), .slice none 0 0] 59))
  rw [hs1] at hk
  refine ⟨by rw [hcell]; rfl, by rw [hcell]; rfl, by rw [hcell]; rfl, by rw [hcell]; rfl, by rw [hcell]; rfl, hf 4, ⟨_, hm⟩, ⟨_, hk⟩, World.ownsRow_nil _ _ _ _, rfl, fun x hx => absurd hx (by simp), ⟨fun d hd => absurd hd (by simp [p0]), (fun r hr => by cases hr)⟩, ⟨by simp [p0], by simp⟩, (fun r hr => by cases hr), ⟨h1, h2⟩, ⟨h3, h4⟩, by omega, by omega, by omega, (fun i e => by cases e), fun x hx => absurd hx (by simp)⟩

/-- Its blocks, as they are read off the memory. -/
def FB (w : World) (b i : Nat) : Prop := i = b ∨ w.cell? ⟨b, 2, none⟩ = some (.map (some i)) ∨ w.cell? ⟨b, 3, none⟩ = some (.map (some i)) ∨ ∃ g n c, w.cell? ⟨b, 4, none⟩ = some (.slice (some ⟨g, 0, none⟩) n c) ∧ (i = g ∨ ∃ j n' c', j < n ∧ w.cell? ⟨g, j * 2, none⟩ = some (.slice (some ⟨i, 0, none⟩) n' c'))
theorem PQ.foot {w : World} {b tb kb k z : Nat} {p : PS} {T : List Nat} {vW : Value} {X : List Wtr} (h : PQ w b tb kb k z p T vW X) (i : Nat) : FB w b i ↔ PF b tb kb vW X i := by
  obtain ⟨a, cap, hv, h1, h2, h3, h4⟩ := own_wtrs h.row
  constructor
  · rintro (e | e | e | ⟨g, n, c, e, e2⟩)
    · exact Or.inl e
    · rw [h.ct] at e; injection e with e; injection e with e; injection e with e
      exact Or.inr (Or.inl e.symm)
    · rw [h.cn] at e; injection e with e; injection e with e; injection e with e
      exact Or.inr (Or.inr (Or.inl e.symm))
    · rw [h.cw] at e; injection e with e
      rcases e2 with rfl | ⟨j, n', c', hj, e2⟩
      · exact Or.inr (Or.inr (Or.inr (Or.inl (by rw [e]; rfl))))
      · rw [hv] at e
        injection e with ea en ec
        subst en
        rw [(h4 g ea j hj).1] at e2
        injection e2 with e2; injection e2 with e2; injection e2 with e2; injection e2 with e2
        exact Or.inr (Or.inr (Or.inr (Or.inr ⟨wAt X j, wAt_mem hj, e2.symm⟩)))
  · rintro (e | e | e | e | ⟨x, hx, e⟩)
    · exact Or.inl e
    · exact Or.inr (Or.inl (by rw [h.ct, e]))
    · exact Or.inr (Or.inr (Or.inl (by rw [h.cn, e])))
    · rcases h.row.2 with ⟨hv', _⟩ | ⟨g, cap', cur, hv', _⟩
      · rw [hv'] at e; cases e
      · rw [hv'] at e
        cases e
        exact Or.inr (Or.inr (Or.inr ⟨g, _, _, by rw [h.cw, hv'], Or.inl rfl⟩))
    · obtain ⟨j, hj, ej⟩ := List.getElem_of_mem hx
      obtain ⟨g, ha⟩ := h3 (by omega)
      have e2 : wAt X j = x := by rw [← ej]; simp [wAt, List.getD, hj]
      refine Or.inr (Or.inr (Or.inr ⟨g, X.length, cap, by rw [h.cw, hv, ha], Or.inr ⟨j, x.n, x.c, hj, ?_⟩⟩))
      rw [(h4 g ha j hj).1, e2, e]

/-- The state of a Peeler; its blocks. -/
def PStt (w : World) (v : Value) (k z : Nat) (p : PS) (T : List Nat) : Prop := ∃ b tb kb vW X, v = .pointer (some ⟨b, 0, none⟩) ∧ PQ w b tb kb k z p T vW X
def PFoot (w : World) (v : Value) (i : Nat) : Prop := ∃ b, v = .pointer (some ⟨b, 0, none⟩) ∧ FB w b i
theorem pfoot {w : World} {b tb kb k z : Nat} {p : PS} {T : List Nat} {vW : Value} {X : List Wtr} (h : PQ w b tb kb k z p T vW X) (i : Nat) : PFoot w (.pointer (some ⟨b, 0, none⟩)) i ↔ PF b tb kb vW X i := by
  rw [← h.foot i]
  constructor
  · rintro ⟨b', e, hf⟩
    injection e with e; injection e with e; injection e with e
    subst e; exact hf
  · exact fun hf => ⟨b, rfl, hf⟩
theorem pkeep {w w' : World} {b tb kb k z : Nat} {p : PS} {T : List Nat} {vW : Value} {X : List Wtr} (h : PQ w b tb kb k z p T vW X) (hb : ∀ i, PFoot w (.pointer (some ⟨b, 0, none⟩)) i → w'.heap[i]? = w.heap[i]?) : PQ w' b tb kb k z p T vW X := h.keep fun i hi => hb i ((pfoot h i).2 hi)

def peelI : PIm where
  St := PStt
  foot := PFoot
  foot_lt := by
    rintro w v k z p T ⟨b, tb, kb, vW, X, rfl, h⟩ i hi
    exact h.flt i ((pfoot h i).1 hi)
  keep := by
    rintro w w' v k z p T ⟨b, tb, kb, vW, X, rfl, h⟩ hs hb
    have h' := pkeep h hb
    exact ⟨⟨b, tb, kb, vW, X, rfl, h'⟩, fun i hi => (pfoot h i).2 ((pfoot h' i).1 hi)⟩
  new_ok := by
    intro k z w h1 h2 h3 h4
    refine (new_walk k z w h1 h2 h3 h4).mono ?_
    rintro e w' ⟨rfl, rfl⟩
    have hq := newW_pq w k z h1 h2 h3 h4
    refine ⟨_, rfl, ⟨_, _, _, _, _, rfl, hq⟩, fun i hi => ?_, newW_below w k z⟩
    rcases (pfoot hq i).1 hi with e | e | e | e | ⟨x, hx, _⟩
    · omega
    · omega
    · omega
    · cases e
    · cases hx
  new_range := by
    intro k z w h
    refine (new_range' k z w h).mono ?_
    rintro e w' ⟨rfl, hb⟩
    exact ⟨_, rfl, hb⟩
  take_bad := by
    rintro w v k z p T ⟨b, tb, kb, vW, X, rfl, h⟩ seed data hd ht
    have fin : ∀ x : Int, tF k z T seed data.size = x → (Calls Tryd.prog 7 #[.pointer (some ⟨b, 0, none⟩), dropV seed data] w fun e w' => e = .returned (.tuple #[.slice none 0 0, .iface 54 (.int .i64 x)]) ∧ Below w.heap.size w w') →
        Calls Tryd.prog 7 #[.pointer (some ⟨b, 0, none⟩), dropV seed data] w fun e w' => ∃ vs, e = .returned (.tuple #[vs, .iface 54 (.int .i64 (tF k z T seed data.size))]) ∧ Lsh w' vs [] ∧ PStt w' (.pointer (some ⟨b, 0, none⟩)) k z p T ∧ Kept (PFoot w (.pointer (some ⟨b, 0, none⟩))) w w' ∧ ∀ i, PFoot w' (.pointer (some ⟨b, 0, none⟩)) i → PFoot w (.pointer (some ⟨b, 0, none⟩)) i ∨ w.heap.size ≤ i := fun x hx hC => by
      refine hC.mono ?_
      rintro e w' ⟨rfl, hb⟩
      have h' := h.below hb
      exact ⟨.slice none 0 0, by rw [hx], ⟨none, 0, rfl, Nat.le_refl _, by unfold maxLen; omega, fun h => absurd h (by simp)⟩, ⟨b, tb, kb, vW, X, rfl, h'⟩, (Kept.refl _ w).below hb, fun i hi => Or.inl ((pfoot h i).2 ((pfoot h' i).1 hi))⟩
    by_cases hf : fD k z seed data.size = 0
    · have hok := fD_ok hf
      obtain ⟨n, rfl⟩ := Int.eq_ofNat_of_zero_le (show 0 ≤ seed by have := hok.1.2.2; omega)
      by_cases hm : n ∈ T
      · exact fin 7 (by unfold tF; rw [if_neg (by simp [hf]), if_pos (by simpa using hm)]) (take_clash b tb kb k z p T vW X n data w h hf hm)
      · by_cases h60 : 60 ≤ T.length
        · exact fin 4 (by unfold tF; rw [if_neg (by simp [hf]), if_neg (by simpa using hm), if_pos h60]) (take_full b tb kb k z p T vW X n data w h hf hm h60)
        · exact absurd (by unfold tF; rw [if_neg (by simp [hf]), if_neg (by simpa using hm), if_neg h60]) ht
    · exact fin _ (by unfold tF; rw [if_pos hf]) (take_check b tb kb k z p T vW X seed data w h hf)
  take_ok := by
    rintro w v k z p T ⟨b, tb, kb, vW, X, rfl, h⟩ seed data ht
    have hf : fD k z (seed : Int) data.size = 0 := by
      by_cases c : fD k z (seed : Int) data.size = 0
      · exact c
      · unfold tF at ht; rw [if_pos c] at ht; exact ht
    unfold tF at ht
    rw [if_neg (by simp [hf])] at ht
    have hm : seed ∉ T := fun hm => by rw [if_pos (by simpa using hm)] at ht; cases ht
    rw [if_neg (by simpa using hm)] at ht
    have h60 : T.length < 60 := by
      rcases Nat.lt_or_ge T.length 60 with h | h
      · exact h
      · rw [if_pos h] at ht; cases ht
    refine (take_walk b tb kb k z p T vW X seed data w h hf hm h60).mono ?_
    rintro e w' ⟨v, q, vW', X', rfl, hp, hl, hq, hk, hfo⟩
    exact ⟨v, q, rfl, hp, hl, ⟨b, tb, kb, vW', X', rfl, hq⟩, hk.wider fun i hi => (pfoot h i).2 hi, fun i hi => (hfo i ((pfoot hq i).1 hi)).imp (fun e => (pfoot h i).2 e) id⟩
  knows_ok := by
    rintro w v k z p T ⟨b, tb, kb, vW, X, rfl, h⟩
    exact knows_walk b tb kb k z p T vW X w h
  waits_ok := by
    rintro w v k z p T ⟨b, tb, kb, vW, X, rfl, h⟩
    exact waits_walk b tb kb k z p T vW X w h
  block_any := by
    rintro w v k z p T ⟨b, tb, kb, vW, X, rfl, h⟩ i
    exact block_walk b tb kb k z p T vW X i w h
end Go.Proofs.YtopibfbpecjgbaaDoor

namespace Go.Proofs.YtopibfbpecjgbaaDoor
open Go.RowKit Go.Maps
set_option linter.unusedVariables false
set_option maxRecDepth 100000

theorem below_two' {w0 w w' : World} (h : Below w0.heap.size w0 w) (k : Below w.heap.size w w') : Below w0.heap.size w0 w' := below_two h k
theorem kept_below {M : Nat → Prop} {w0 w w' : World} (h : Below w0.heap.size w0 w) (k : Kept M w w') (hm : ∀ i, M i → w0.heap.size ≤ i) : Below w0.heap.size w0 w' :=
  ⟨k.os.trans h.os, k.tape.trans h.tape, k.output.trans h.output, Nat.le_trans h.size k.size, fun i hi => (k.block i (Nat.lt_of_lt_of_le hi h.size) (fun e => by have := hm i e; omega)).trans (h.block i hi)⟩
theorem Lsh.ints {w : World} {v : Value} {l : List Nat} (h : Lsh w v l) : IntsIn w v l.length (fun i => ((l.getD i 0 : Nat) : Int)) := by
  obtain ⟨a, cap, hv, _, _, h3⟩ := h
  rcases Nat.eq_zero_or_pos l.length with e | h0
  · rw [e] at hv ⊢; exact Or.inl ⟨rfl, _, _, hv⟩
  · obtain ⟨g, cap', hv', _, _, hc⟩ := h3 h0
    exact Or.inr ⟨h0, g, 0, cap', hv', hc⟩
theorem came_self (k : Nat) (kn : Nat → Bool) : came k kn kn = [] := List.filter_eq_nil_iff.2 fun r _ => by cases kn r <;> simp
theorem Lsh.kept {M : Nat → Prop} {w w' : World} {v : Value} {l : List Nat} (h : Lsh w v l) (k : Kept M w w') (hm : ∀ i, v.ownBlock = some i → ¬ M i) : Lsh w' v l := by
  obtain ⟨a, cap, hv, h1, h2, h3⟩ := h
  refine ⟨a, cap, hv, h1, h2, fun h0 => ?_⟩
  obtain ⟨g, cap', hv', q1, q2, q3⟩ := h3 h0
  have hlt : g < w.heap.size := cell_lt (q3 0 h0)
  have hb : w'.heap[g]? = w.heap[g]? := k.block g hlt (hm g (by rw [hv']; rfl))
  exact ⟨g, cap', hv', q1, q2, fun i hi => (World.cell?_of_block (w := w) hb).trans (q3 i hi)⟩
theorem Peels.shrinks {S : Nat → List Nat} {p a : PS} (h : Peels S p a) : a.L.length ≤ p.L.length := by rw [h.waits]; exact sift_len _
theorem tF_ok {k z : Nat} {T : List Nat} {n d : Nat} (hf : fD k z (n : Int) d = 0) (hm : n ∉ T) (h : ¬ 60 ≤ T.length) : tF k z T (n : Int) d = 0 := by
  unfold tF
  rw [if_neg (by simp [hf]), if_neg (by simpa using hm), if_neg h]
end Go.Proofs.YtopibfbpecjgbaaDoor
