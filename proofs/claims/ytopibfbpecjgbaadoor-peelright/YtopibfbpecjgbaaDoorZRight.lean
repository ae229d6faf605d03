/-
  Proved: 'dropletmill/droplaw1.PeelRight' returns true whatever slice of strings and slice of numbers it is handed, and both read behind the call as they did; its row lists errors.errorType with what the program's text lays
  The card speaks of the pruned copy of the project that holds the packages which this seat's roots load.
-/
import Derived.Test.YtopibfbpecjgbaaDoorZNum
import Derived.ProofKit
import Derived.OpenShut
import Derived.ChangeSlices
import Derived.Test.YtopibfbpecjgbaaDoorZTk
import Derived.Test.YtopibfbpecjgbaaDoorZBlk
import Derived.Test.YtopibfbpecjgbaaDoorCards
import Derived.Test.YtopibfbpecjgbaaDoorTie
import Derived.Deep.DeepHandedRow
import Derived.Deep.DeepCutAuto
import Derived.Deep.CutRange
import Derived.Deep.AppendLies
namespace Go.Proofs.YtopibfbpecjgbaaDoor
open Go.ChangeShapes Go.WideShapes Go.ChangeAt Go.RowKit
set_option linter.unusedVariables false
set_option maxRecDepth 100000

theorem cellsInt : Tryd.prog.cellsOf 3 = 1 := by kernel_rfl

/-- A slice of ints as it lies: len numbers f 0, f 1, .. -/
def IntsAt (W : World) (v : Value) (len : Nat) (f : Nat → Int) : Prop :=
  (len = 0 ∧ ∃ a cap, v = .slice a 0 cap) ∨ (0 < len ∧ ∃ b o cap, v = .slice (some ⟨b, o, none⟩) len cap ∧ len ≤ cap ∧ cap ≤ maxLen ∧ (∀ i, i < len → W.cell? ⟨b, o + i, none⟩ = some (.int .i64 (f i))) ∧ ∀ i, i < len → (Lit.int .i64 (f i)).wf = true)

theorem open_intsAt {H : Type} {enc : TypeId × Value → H} {W : World} {base : Nat} {v : Value} {d : DataW H} {p : List MemPlace}
    (hv : Value.okWide Tryd.prog W .any base 23 v) (h : DataW.Trod enc Tryd.prog W 0 (fun _ => true) true 23 v d p) : ∃ len f, IntsAt W v len f := by
  obtain ⟨a0, len, cap, rfl⟩ := okWide_slice Tryd.underlying23 hv
  obtain ⟨fuel, hf⟩ := h
  rcases open_ints Tryd.underlying23 Tryd.underlying3 cellsInt hf with ⟨hcs, hx⟩ | ⟨a, len', cap', ss, hcs, _, hl, hm, hz, hx, hcell, hws⟩
  · simp [Value.cells] at hcs
    obtain ⟨rfl, rfl, rfl⟩ := hcs
    exact ⟨0, fun _ => 0, Or.inl ⟨rfl, none, 0, rfl⟩⟩
  · simp [Value.cells] at hcs
    obtain ⟨rfl, rfl, rfl⟩ := hcs
    simp only [if_true] at hz
    by_cases h0 : len = 0
    · subst h0
      exact ⟨0, fun _ => 0, Or.inl ⟨rfl, some a, cap, rfl⟩⟩
    · obtain ⟨b, off, spot⟩ := a
      have hspot : spot = none := by simpa [Addr.add] using World.cell?_spot (hcell 0 (by omega))
      subst hspot
      refine ⟨len, fun i => ss.getD i 0, Or.inr ⟨by omega, b, off, cap, rfl, hl, hm, fun i hi => ?_, fun i hi => ?_⟩⟩
      · rw [← add_plain]; exact hcell i (by omega)
      · have hi' : i < ss.length := by omega
        have e : ss.getD i 0 = ss[i] := by simp [List.getD, List.getElem?_eq_getElem hi']
        show (Lit.int .i64 (ss.getD i 0)).wf = true
        rw [e]; exact hws _ (List.getElem_mem hi')
end Go.Proofs.YtopibfbpecjgbaaDoor

namespace Go.Proofs.YtopibfbpecjgbaaDoor
open Go.RowKit Go.Maps
set_option linter.unusedVariables false
set_option maxRecDepth 100000

theorem own_blk2 {w w' : World} {B e size n : Nat} {v : Value} {xs : List Value} (h : w.ownsRow B e size v n xs) (hb : ∀ i, v.ownBlock = some i → w'.heap[i]? = w.heap[i]?) : w'.ownsRow B e size v n xs := by
  refine ⟨h.1, ?_⟩
  rcases h.2 with hn | ⟨g, cap, cur, hv, h1, hgg, rest⟩
  · exact .inl hn
  · exact .inr ⟨g, cap, cur, hv, h1, (hb g (by rw [hv]; rfl)).trans hgg, rest⟩

structure Two (I : PIm) (w0 w : World) (vP vQ vm : Value) (k z : Nat) (p q : PS) (Tp Tq : List Nat) (Ms : List Drp) : Prop where
  stp : I.St w vP k z p Tp
  stq : I.St w vQ k z q Tq
  row : w.ownsRow w0.heap.size 32 2 vm Ms.length (dC Ms)
  apq : ∀ i, I.foot w vP i → ¬ I.foot w vQ i
  amp : ∀ i, vm.ownBlock = some i → ¬ I.foot w vP i
  amq : ∀ i, vm.ownBlock = some i → ¬ I.foot w vQ i
  frp : ∀ i, I.foot w vP i → w0.heap.size ≤ i
  frq : ∀ i, I.foot w vQ i → w0.heap.size ≤ i
  below : Below w0.heap.size w0 w
theorem Two.grow {I : PIm} {w0 w w' : World} {vP vQ vm : Value} {k z : Nat} {p q : PS} {Tp Tq : List Nat} {Ms : List Drp} (h : Two I w0 w vP vQ vm k z p q Tp Tq Ms) (hb : Below w.heap.size w w') : Two I w0 w' vP vQ vm k z p q Tp Tq Ms := by
  have h1 := I.below h.stp hb
  have h2 := I.below h.stq hb
  exact ⟨h1.1, h2.1, own_under' h.row hb, fun i hi hj => h.apq i (h1.2 i hi) (h2.2 i hj), fun i e hj => h.amp i e (h1.2 i hj), fun i e hj => h.amq i e (h2.2 i hj), fun i hi => h.frp i (h1.2 i hi), fun i hi => h.frq i (h2.2 i hi), below_two h.below hb⟩
/-- The first one takes a drop, or does not. -/
theorem Two.takeP {I : PIm} {w0 w w' : World} {vP vQ vm : Value} {k z : Nat} {p q p' : PS} {Tp Tq Tp' : List Nat} {Ms : List Drp} (h : Two I w0 w vP vQ vm k z p q Tp Tq Ms) (hs : I.St w' vP k z p' Tp') (hk : Kept (I.foot w vP) w w') (hf : ∀ i, I.foot w' vP i → I.foot w vP i ∨ w.heap.size ≤ i) : Two I w0 w' vP vQ vm k z p' q Tp' Tq Ms := by
  have h2 := I.keep h.stq hk.size fun i hi => hk.block i (I.foot_lt h.stq i hi) fun e => h.apq i e hi
  refine ⟨hs, h2.1, own_blk2 h.row fun i e => hk.block i (h.row.lt i e).2 (h.amp i e), fun i hi hj => ?_, fun i e hj => ?_, fun i e hj => h.amq i e (h2.2 i hj), fun i hi => ?_, fun i hi => h.frq i (h2.2 i hi), kept_below h.below hk h.frp⟩
  · have hj' := h2.2 i hj
    rcases hf i hi with h9 | h9
    · exact h.apq i h9 hj'
    · have := I.foot_lt h.stq i hj'; omega
  · rcases hf i hj with h9 | h9
    · exact h.amp i e h9
    · have := (h.row.lt i e).2; omega
  · rcases hf i hi with h9 | h9
    · exact h.frp i h9
    · exact Nat.le_trans h.below.size h9
/-- The second one does. -/
theorem Two.takeQ {I : PIm} {w0 w w' : World} {vP vQ vm : Value} {k z : Nat} {p q q' : PS} {Tp Tq Tq' : List Nat} {Ms : List Drp} (h : Two I w0 w vP vQ vm k z p q Tp Tq Ms) (hs : I.St w' vQ k z q' Tq') (hk : Kept (I.foot w vQ) w w') (hf : ∀ i, I.foot w' vQ i → I.foot w vQ i ∨ w.heap.size ≤ i) : Two I w0 w' vP vQ vm k z p q' Tp Tq' Ms := by
  have h2 := I.keep h.stp hk.size fun i hi => hk.block i (I.foot_lt h.stp i hi) fun e => h.apq i hi e
  refine ⟨h2.1, hs, own_blk2 h.row fun i e => hk.block i (h.row.lt i e).2 (h.amq i e), fun i hi hj => ?_, fun i e hj => h.amp i e (h2.2 i hj), fun i e hj => ?_, fun i hi => h.frp i (h2.2 i hi), fun i hi => ?_, kept_below h.below hk h.frq⟩
  · have hi' := h2.2 i hi
    rcases hf i hj with h9 | h9
    · exact h.apq i hi' h9
    · have := I.foot_lt h.stp i hi'; omega
  · rcases hf i hj with h9 | h9
    · exact h.amq i e h9
    · have := (h.row.lt i e).2; omega
  · rcases hf i hi with h9 | h9
    · exact h.frq i h9
    · exact Nat.le_trans h.below.size h9
/-- A drop more was made. -/
theorem Two.push {I : PIm} {w0 w w' : World} {vP vQ vm v : Value} {k z : Nat} {p q : PS} {Tp Tq : List Nat} {Ms : List Drp} {d : Drp} (h : Two I w0 w vP vQ vm k z p q Tp Tq Ms) (hg : w.grownBy w' vm.ownBlock) (hv : w'.ownsRow w0.heap.size 32 2 v (Ms ++ [d]).length (dC (Ms ++ [d]))) (hat : v.ownBlock = vm.ownBlock ∨ ∃ i, v.ownBlock = some i ∧ w.heap.size ≤ i) : Two I w0 w' vP vQ v k z p q Tp Tq (Ms ++ [d]) := by
  have h1 := I.keep h.stp hg.size fun i hi => hg.block i (I.foot_lt h.stp i hi) fun e => h.amp i e.symm hi
  have h2 := I.keep h.stq hg.size fun i hi => hg.block i (I.foot_lt h.stq i hi) fun e => h.amq i e.symm hi
  refine ⟨h1.1, h2.1, hv, fun i hi hj => h.apq i (h1.2 i hi) (h2.2 i hj), fun i e hj => ?_, fun i e hj => ?_, fun i hi => h.frp i (h1.2 i hi), fun i hi => h.frq i (h2.2 i hi), h.below.grown hg h.below.size fun i e => (h.row.lt i e).1⟩
  · have hj' := h1.2 i hj
    rcases hat with e2 | ⟨m, e2, hm⟩
    · exact h.amp i (e2 ▸ e) hj'
    · rw [e] at e2; cases e2
      have := I.foot_lt h.stp i hj'; omega
  · have hj' := h2.2 i hj
    rcases hat with e2 | ⟨m, e2, hm⟩
    · exact h.amq i (e2 ▸ e) hj'
    · rw [e] at e2; cases e2
      have := I.foot_lt h.stq i hj'; omega

/-- A peeler that has taken just these drops of the blocks g. -/
structure Rt (g : Nat → ByteArray) (k : Nat) (p : PS) (T : List Nat) (Ms : List Drp) : Prop where
  took : Took (setL k) p Ms
  seeds : T = Ms.map Prod.fst
  so : ∀ r, p.known r = true → p.B r = g r
  lt : ∀ r, p.known r = true → r < k
  are : ∀ d ∈ Ms, (1 ≤ d.1 ∧ d.1 ≤ 10000) ∧ d.2 = dropB g k d.1
theorem rt_none (g : Nat → ByteArray) (k : Nat) : Rt g k p0 [] [] := ⟨took_none _ _, rfl, (fun r h => by cases h), (fun r h => by cases h), fun d hd => absurd hd (by simp)⟩
theorem setL_nodup (k s : Nat) : (setL k s).Nodup := (setL_rise k s).imp (fun h => by omega)
theorem Rt.take {g : Nat → ByteArray} {k : Nat} {p a : PS} {T : List Nat} {Ms : List Drp} (h : Rt g k p T Ms) (hk : 1 ≤ k) (hz : ∀ r, r < k → (g r).size = (g 0).size) {n : Nat} (h1 : 1 ≤ n) (h2 : n ≤ 10000) (hp : Peels (setL k) ⟨p.known, p.B, p.L ++ [(n, dropB g k n)]⟩ a) : Rt g k a (T ++ [n]) (Ms ++ [(n, dropB g k n)]) := by
  have hin : ∀ d ∈ p.L ++ [(n, dropB g k n)], 1 ≤ d.1 ∧ d.2 = dropB g k d.1 := fun d hd => by
    rcases List.mem_append.1 hd with hd | hd
    · rw [h.took.waits] at hd
      have := h.are d (mem_sift.1 hd).1
      exact ⟨this.1.1, this.2⟩
    · rw [List.mem_singleton.1 hd]; exact ⟨h1, rfl⟩
  refine ⟨h.took.take (setL_nodup k) _ hp, by rw [h.seeds, List.map_append]; rfl, hp.sound hk hz h.so hin, hp.lt hk (fun d hd => (hin d hd).1) h.lt, fun d hd => ?_⟩
  rcases List.mem_append.1 hd with hd | hd
  · exact h.are d hd
  · rw [List.mem_singleton.1 hd]; exact ⟨⟨h1, h2⟩, rfl⟩
theorem Rt.grows {k : Nat} {p a : PS} {d : Drp} (hp : Peels (setL k) ⟨p.known, p.B, p.L ++ [d]⟩ a) : (knows k a.known).length = (knows k p.known).length + (came k p.known a.known).length := came_len _ _ hp.grows k
theorem dropB_fits (g : Nat → ByteArray) (k n : Nat) : (dropB g k n).size = (g 0).size := dropB_size _ _ _
/-- What Take finds of a drop of the blocks. -/
theorem tF_made {g : Nat → ByteArray} {k z n : Nat} {T : List Nat} (hk : 1 ≤ k ∧ k ≤ 16) (hz : (1 ≤ z ∧ z ≤ 8) ∧ (g 0).size = z) (h1 : 1 ≤ n) (h2 : n ≤ 10000) (hT : T.length < 60) : tF k z T (n : Int) (dropB g k n).size = if n ∈ T then 7 else 0 := by
  have hfd : fD k z (n : Int) (dropB g k n).size = 0 := by
    unfold fD
    rw [if_pos (by unfold OkD; omega), if_pos (by rw [dropB_fits, hz.2])]
  by_cases c : n ∈ T
  · rw [if_pos c]
    unfold tF
    rw [if_neg (by simp [hfd]), if_pos (by simpa using c)]
  · rw [if_neg c]
    exact tF_ok hfd c (by omega)
/-- Those that are left, from the end. -/
theorem drop_rev {Ms : List Drp} {c : Nat} (h : c < Ms.length) : (Ms.drop c).reverse = (Ms.drop (c + 1)).reverse ++ [dAt Ms c] := by
  have e : Ms.drop c = dAt Ms c :: Ms.drop (c + 1) := by rw [List.drop_eq_getElem_cons h]; simp [dAt, List.getD, h]
  rw [e, List.reverse_cons]
theorem left_new {Ms : List Drp} {c : Nat} (h : c < Ms.length) (hn : (Ms.map Prod.fst).Nodup) : (dAt Ms c).1 ∉ (Ms.drop (c + 1)).reverse.map Prod.fst := fun hm => by
  have e : Ms.drop c = dAt Ms c :: Ms.drop (c + 1) := by rw [List.drop_eq_getElem_cons h]; simp [dAt, List.getD, h]
  have h1 : ((Ms.drop c).map Prod.fst).Nodup := hn.sublist ((List.drop_sublist c Ms).map _)
  rw [e, List.map_cons, List.nodup_cons] at h1
  rw [List.map_reverse, List.mem_reverse] at hm
  exact h1.1 hm
theorem Rt.dropT {g : Nat → ByteArray} {k : Nat} {p : PS} {T : List Nat} {Ms : List Drp} (h : Rt g k p T Ms) {c : Nat} (hc : c < Ms.length) : (1 ≤ (dAt Ms c).1 ∧ (dAt Ms c).1 ≤ 10000) ∧ (dAt Ms c).2 = dropB g k (dAt Ms c).1 := h.are _ (dAt_mem hc)
theorem knows_mem {k : Nat} {kn : Nat → Bool} {r : Nat} (h : r ∈ knows k kn) : r < k ∧ kn r = true := ⟨List.mem_range.1 (List.mem_filter.1 h).1, (List.mem_filter.1 h).2⟩
end Go.Proofs.YtopibfbpecjgbaaDoor

namespace Go.Proofs.YtopibfbpecjgbaaDoor
open Go.ChangeShapes Go.WideShapes Go.ChangeAt Go.RowKit Go.Maps
set_option linter.unusedVariables false
set_option maxRecDepth 100000

/-- A block that is known is told, with no error. -/
def Tells (I : PIm) : Prop := ∀ {w : World} {v : Value} {k z : Nat} {p : PS} {T : List Nat}, I.St w v k z p T → ∀ r : Nat, r < k → k ≤ 16 → p.known r = true → Calls Tryd.prog 8 #[v, .int .i64 (r : Nat)] w fun e w' => e = .returned (.tuple #[.string (p.B r), .nilIface]) ∧ Below w.heap.size w w'
set_option maxHeartbeats 1000000 in
theorem peelI_tells : Tells peelI := by
  rintro w v k z p T ⟨b, tb, kb, vW, X, rfl, h⟩ r hr hk hkn
  have hck := h.ck
  have hcn := h.cn
  obtain ⟨D, hD⟩ := h.kn
  have HD := hide hD
  have CL := hide (fun W => strings_Clone (p.B r) W (by have := h.good.2 r hkn; have := h.nz; omega))
  have c0 : ¬ (r : Int) < 0 := by omega
  have c1 : ¬ (k : Int) ≤ (r : Int) := by omega
  have HK := hide hkn
  clear h hD hkn
  go_enter Tryd.func8, Tryd.ntmps8
  go_wp2_with (first | (at_lookup; refine wpList_lookup_blk rfl _ _ rfl kb k r p.known p.B D rfl rfl HD.out (by omega) ?_; intro s hs; rw [HK.out, hs HK.out]) | fail)
  refine (CL.out _).mono ?_
  rintro e w1 ⟨rfl, hb1⟩
  have HB1 := hide (below_two ((Below.refl _ w).alloc (Nat.le_refl _) (.cells #[.string (p.B r)] 69)) hb1)
  clear hb1
  go_wp2
  go_ret2
  exact ⟨rfl, HB1.out⟩
theorem came_single {k r : Nat} {kn : Nat → Bool} (hr : r < k) (h : kn r = false) : came k kn (upd kn r true) = [r] := by
  obtain ⟨A, B, e1, e2, _, _⟩ := came_ins hr h h
  rw [came_self] at e1
  have := List.append_eq_nil_iff.1 e1.symm
  rw [e2, this.1, this.2]; rfl
/-- The first drop of all. -/
theorem first_tF : tF 2 1 [] ((2 : Nat) : Int) (⟨#[98]⟩ : ByteArray).size = 0 := by decide
theorem first_peels {q : PS} (h : Peels (setL 2) ⟨p0.known, p0.B, p0.L ++ [(2, ⟨#[98]⟩)]⟩ q) : q = ⟨upd p0.known 1 true, upd p0.B 1 ⟨#[98]⟩, []⟩ :=
  h.det (peels_alone (S := setL 2) (kn := p0.known) (B := p0.B) (d := (2, ⟨#[98]⟩)) (r := 1) (by rw [setL_one (by decide)]; rfl) rfl)

set_option maxHeartbeats 2000000 in
theorem right_bad (I : PIm) (hI : Tells I) (v vs : Value) (w : World) (x : Int) (hC : ∀ w1, Below w.heap.size w w1 → Calls Tryd.prog 9 #[v] w1 fun e w' => e = .returned (.iface 54 (.int .i64 x)) ∧ Below w1.heap.size w1 w') :
    Calls Tryd.prog 3 #[v, vs] w fun e w' => e = .returned (.bool true) ∧ Below w.heap.size w w' := by
  have C := hide hC
  clear hC
  have N2 := hide (I.new_ok 2 1 w (by omega) (by omega) (by omega) (by omega))
  go_enter Tryd.func3, Tryd.ntmps3
  go_wp2_with fail
  refine (N2.out).mono ?_
  rintro e w1 ⟨v1, rfl, hst1, hfo1, hb1⟩
  have TK1 := hide (I.take_ok hst1 2 ⟨#[98]⟩ first_tF)
  have HF1 := hide hfo1
  have HB1 := hide hb1
  unfold dropV at TK1
  clear hst1 hfo1 hb1 N2
  go_wp2_with fail
  refine (TK1.out).mono ?_
  rintro e w2 ⟨vs2, q2, rfl, hp2, hl2, hs2, hk2, hf2⟩
  obtain rfl := first_peels hp2
  rw [came_single (by decide) rfl] at hl2
  have BK2 := hide (hI hs2 1 (by decide) (by decide) (by rfl))
  have HB2 := hide (kept_below HB1.out hk2 HF1.out)
  obtain ⟨a2, c2, rfl, hq2, hm2, hl2'⟩ := hl2
  obtain ⟨g2, c2', hv2, _, _, hcell2⟩ := hl2' (by simp)
  injection hv2 with ea2 _ ec2
  subst ea2 ec2
  have hx2 := hcell2 0 (by simp)
  simp only [Nat.zero_add, List.getD_cons_zero] at hx2
  unfold maxLen at hm2
  clear hp2 hs2 hk2 hf2 hl2' hcell2 TK1
  go_wp2_with fail
  refine (BK2.out).mono ?_
  rintro e w3 ⟨rfl, hb3⟩
  have HB3 := hide (below_two HB2.out hb3)
  have hx3 := cell_below hb3 hx2
  have hup : upd p0.B 1 ⟨#[98]⟩ 1 = (⟨#[98]⟩ : ByteArray) := rfl
  rw [hup]
  clear hb3 hx2 BK2 hup
  have C3 := hide (C.out w3 HB3.out)
  go_wp2_with fail
  refine (C3.out).mono ?_
  rintro e w4 ⟨rfl, hb4⟩
  have HB4 := hide (below_two HB3.out hb4)
  clear hb4
  go_wp2
  go_ret
  exact ⟨rfl, HB4.out⟩
/-- As the first loop goes. -/
def RInv (I : PIm) (w0 : World) (vP vQ : Value) (g : Nat → ByteArray) (k z i : Nat) (tm tv : Value) (wr : World) : Prop :=
  ∃ p T Ms am cm, tv = .slice am Ms.length cm ∧ tm = .int .i64 ((knows k p.known).length : Nat) ∧ Two I w0 wr vP vQ (.slice am Ms.length cm) k z p p0 T [] Ms ∧ Rt g k p T Ms ∧ Ms.length ≤ i ∧ T.Nodup ∧ Ms.length ≤ cm ∧ cm ≤ maxLen
/-- As the second loop goes: c are left. -/
def QInv (I : PIm) (w0 : World) (vP vQ vm : Value) (g : Nat → ByteArray) (k z : Nat) (p : PS) (T : List Nat) (Ms : List Drp) (c : Nat) (wr : World) : Prop :=
  ∃ q Tq, Two I w0 wr vP vQ vm k z p q T Tq Ms ∧ Rt g k q Tq (Ms.drop c).reverse

set_option maxHeartbeats 8000000 in
theorem right_ok (I : PIm) (hI : Tells I) (b o len cap : Nat) (g : Nat → ByteArray) (vs : Value) (m : Nat) (f : Nat → Int) (w : World) (hg : HasErr w) (hlc : len ≤ cap) (hcm : cap ≤ maxLen) (hB : Blks w b o len g) (hS : IntsAt w vs m f) :
    Calls Tryd.prog 3 #[.slice (some ⟨b, o, none⟩) len cap, vs] w fun e w' => e = .returned (.bool true) ∧ Below w.heap.size w w' := by
  have h16 := hB.most
  have h1 := hB.one
  have h8 := hB.eight
  have hpos := hB.pos
  have C := hide (fun w1 (hb : Below w.heap.size w w1) => check_ok b o len cap g w1 hB.pos hB.most (hB.below hb).cells hB.one hB.eight hB.same)
  have HBk := hide hB
  have HG := hide hg
  have HGL := hide hg.lt
  have hS' : ∃ aS cS, vs = .slice aS m cS ∧ m ≤ maxLen ∧ ∀ i, i < m → ∃ bs os, aS = some ⟨bs, os, none⟩ ∧ w.cell? ⟨bs, os + i, none⟩ = some (.int .i64 (f i)) := by
    rcases hS with ⟨rfl, a, c, rfl⟩ | ⟨h0, bs, os, c, rfl, q1, q2, q3, _⟩
    · exact ⟨a, c, rfl, Nat.zero_le _, fun i hi => absurd hi (Nat.not_lt_zero _)⟩
    · exact ⟨_, c, rfl, Nat.le_trans q1 q2, fun i hi => ⟨bs, os, rfl, q3 i hi⟩⟩
  obtain ⟨aS, cS, rfl, hS2, hS3⟩ := hS'
  have HSC := hide hS3
  unfold maxLen at hS2 hcm
  have HSz : Hid (∀ r, r < len → (g r).size = (g 0).size) := hB.same
  have hc0 := hB.cells 0 hB.pos
  simp only [Nat.add_zero] at hc0
  clear hB hS hS3 hg
  have N2 := hide (I.new_ok 2 1 w (by omega) (by omega) (by omega) (by omega))
  go_enter Tryd.func3, Tryd.ntmps3
  go_wp2_with fail
  refine (N2.out).mono ?_
  rintro e w1 ⟨v1, rfl, hst1, hfo1, hb1⟩
  have TK1 := hide (I.take_ok hst1 2 ⟨#[98]⟩ first_tF)
  have HF1 := hide hfo1
  have HB1 := hide hb1
  unfold dropV at TK1
  clear hst1 hfo1 hb1 N2
  go_wp2_with fail
  refine (TK1.out).mono ?_
  rintro e w2 ⟨vs2, q2, rfl, hp2, hl2, hs2, hk2, hf2⟩
  obtain rfl := first_peels hp2
  rw [came_single (by decide) rfl] at hl2
  have BK2 := hide (hI hs2 1 (by decide) (by decide) (by rfl))
  have HB2 := hide (kept_below HB1.out hk2 HF1.out)
  obtain ⟨a2, c2, rfl, hq2, hm2, hl2'⟩ := hl2
  obtain ⟨g2, c2', hv2, _, _, hcell2⟩ := hl2' (by simp)
  injection hv2 with ea2 _ ec2
  subst ea2 ec2
  have hx2 := hcell2 0 (by simp)
  simp only [Nat.zero_add, List.getD_cons_zero] at hx2
  unfold maxLen at hm2
  clear hp2 hs2 hk2 hf2 hl2' hcell2 TK1
  go_wp2_with fail
  refine (BK2.out).mono ?_
  rintro e w3 ⟨rfl, hb3⟩
  have HB3 := hide (below_two HB2.out hb3)
  have hx3 := cell_below hb3 hx2
  have hup : upd p0.B 1 ⟨#[98]⟩ 1 = (⟨#[98]⟩ : ByteArray) := rfl
  rw [hup]
  clear hb3 hx2 BK2 hup
  have C3 := hide (C.out w3 HB3.out)
  go_wp2_with fail
  refine (C3.out).mono ?_
  rintro e w4 ⟨rfl, hb4⟩
  have HB4 := hide (below_two HB3.out hb4)
  have hc4 := cell_below HB4.out hc0
  clear hb4 hx3 C C3
  have NP := hide (fun w => I.new_ok len (g 0).size w (by omega) h16 h1 h8)
  generalize hz0 : g 0 = g0 at *
  have HZ0 := hide hz0
  clear hz0
  generalize hz : g0.size = z at *
  have HZ := hide hz
  clear hz hc0
  go_wp2_with fail
  have hz' := HZ.out
  rw [hz']
  clear hz'
  refine (NP.out _).mono ?_
  rintro e w5 ⟨vP, rfl, hst5, hfo5, hb5⟩
  have hc5 := cell_below hb5 hc4
  have HST5 := hide hst5
  have HFO5 := hide hfo5
  have HB5 := hide (below_two HB4.out hb5)
  have HB45 := hide hb5
  clear hst5 hfo5 hb5 hc4
  go_wp2_with fail
  have hz' := HZ.out
  rw [hz']
  clear hz'
  refine (NP.out _).mono ?_
  rintro e w6 ⟨vQ, rfl, hst6, hfo6, hb6⟩
  have HR6 : Hid (RInv I w vP vQ g len z 0 (.int .i64 0) (.slice none 0 0) w6) := by
    have h5 := I.below HST5.out hb6
    refine ⟨p0, [], [], none, 0, rfl, ?_, ⟨h5.1, hst6, World.ownsRow_nil _ _ _ _, fun i hi hj => ?_, (fun i e => by cases e), (fun i e => by cases e), fun i hi => ?_, fun i hi => ?_, below_two HB5.out hb6⟩, rt_none _ _, Nat.le_refl _, List.Pairwise.nil, Nat.le_refl _, by unfold maxLen; omega⟩
    · have e : knows len p0.known = [] := List.filter_eq_nil_iff.2 fun r _ => by simp [p0]
      rw [e]; rfl
    · have := I.foot_lt HST5.out i (h5.2 i hi)
      have := hfo6 i hj
      omega
    · exact Nat.le_trans HB4.out.size (HFO5.out i (h5.2 i hi))
    · exact Nat.le_trans HB5.out.size (hfo6 i hi)
  clear hst6 hfo6 hb6 NP HST5 HFO5 HB5 HB45 hc5 HB4 HB3 HB2 HB1 HF1
  go_wp2_with fail
  go_loopw [13, 14, 15] (fun tm tv ti wr => ∃ i : Nat, i ≤ 60 ∧ ti = .int .i64 i ∧ RInv I w vP vQ g len z i tm tv wr) (fun _ _ ti _ => 60 - (intOf ti).toNat)
  case atStart => exact ⟨0, by omega, rfl, HR6.out⟩
  case round =>
    obtain ⟨i, hi, rfl, p, T, Ms, am, cm, rfl, rfl, hT, hR, hMi, hN, hm1, hm2'⟩ := hrel
    have HT := hide hT
    have HR := hide hR
    have HN := hide hN
    unfold maxLen at hm2'
    have hkl := knows_len len p.known
    clear hT hR hN
    go_upto_region 17 with fail
    go_cut [102] from 95 to 134 (fun t wx => ∃ r : Bool, t = .bool r ∧ (r = true ↔ i < m ∧ i < 60) ∧ wr = wx)
    case first =>
      by_cases c1 : i < m
      · have c1' : (i : Int) < (m : Int) := by omega
        go_wp2
        go_meet
        exact ⟨_, rfl, by simp <;> omega, rfl⟩
      · have c1' : ¬ (i : Int) < (m : Int) := by omega
        go_wp2
        go_meet
        exact ⟨_, rfl, by simp <;> omega, rfl⟩
    case rest =>
    obtain ⟨r, rfl, hr, rfl⟩ := hcut
    cases r with
    | true =>
      obtain ⟨hlt, hlt60⟩ := hr.1 rfl
      clear hr
      obtain ⟨bs, os, haS, hcS⟩ := HSC.out i hlt
      subst haS
      have hcSr := cell_below HT.out.below hcS
      have HWr := hide HT.out.below
      have hTl : T.length < 60 := by rw [HR.out.seeds, List.length_map]; omega
      have hlt' : (i : Int) < (m : Int) := by omega
      clear hcS
      generalize hfi : f i = n at *
      clear hfi
      by_cases hn : 1 ≤ n ∧ n ≤ 10000
      · obtain ⟨n, rfl⟩ := Int.eq_ofNat_of_zero_le (show 0 ≤ n by omega)
        have hn1 : 1 ≤ n := by omega
        have hn2 : n ≤ 10000 := by omega
        have MK := hide (make_ok b o len cap g n wr hpos h16 (HBk.out.below HWr.out).cells HBk.out.one HBk.out.eight HBk.out.same hn1 hn2)
        have HTF := hide (tF_made (g := g) (k := len) (z := z) (n := n) (T := T) ⟨hpos, h16⟩ ⟨⟨h1, h8⟩, by rw [HZ0.out, HZ.out]⟩ hn1 hn2 hTl)
        have HRT : Hid (∀ a, Peels (setL len) ⟨p.known, p.B, p.L ++ [(n, dropB g len n)]⟩ a → Rt g len a (T ++ [n]) (Ms ++ [(n, dropB g len n)])) := fun a ha => HR.out.take hpos HBk.out.same hn1 hn2 ha
        have hds : Hid ((dropB g len n).size ≤ maxLen) := by unfold Hid maxLen; rw [dropB_fits, HZ0.out, HZ.out]; omega
        clear hn
        generalize dropB g len n = dn at *
        unfold dropV at MK
        go_wp2_with fail
        refine (MK.out).mono ?_
        rintro e w7 ⟨rfl, hb7⟩
        have hba : Below w7.heap.size w7 (w7.alloc (.cells #[.int .i64 (n : Nat), .string dn] 32)) := (Below.refl _ _).alloc (Nat.le_refl _) _
        have HT7 := hide (HT.out.grow hb7)
        have HT8 := hide (HT7.out.grow hba)
        have HBox : Hid (¬ I.foot (w7.alloc (.cells #[.int .i64 (n : Nat), .string dn] 32)) vP w7.heap.size) := fun hf => by
          have := I.foot_lt HT7.out.stp _ ((I.below HT7.out.stp hba).2 _ hf)
          omega
        have HDI := hide (dropIn_new w7 (n : Nat) dn)
        clear hb7 hba MK hcSr
        generalize hw8 : w7.alloc (.cells #[.int .i64 (n : Nat), .string dn] 32) = w8 at *
        obtain ⟨⟨d0, _⟩, d1, _⟩ := HDI.out
        simp only [Nat.zero_add] at d1
        have hbl8 : w7.heap.size < w8.heap.size := HDI.out.lt
        by_cases hm : n ∈ T
        · have TK := hide (I.take_bad HT8.out.stp (n : Nat) dn hds.out (by rw [HTF.out, if_pos hm]; decide))
          rw [HTF.out, if_pos hm] at TK
          unfold dropV at TK
          go_wp2_with fail
          refine (TK.out).mono ?_
          rintro e w9 ⟨vs9, rfl, hl9, hs9, hk9, hf9⟩
          have HT9 := hide (HT8.out.takeP hs9 hk9 hf9)
          have E9 := hide (error_right 7 _ w9 (HG.out.below HGL.out HT9.out.below) (Or.inr rfl))
          clear hl9 hs9 hk9 hf9 TK d0 d1
          go_wp2_with fail
          refine (E9.out).mono ?_
          rintro e w10 ⟨rfl, hb10⟩
          have HT10 := hide (HT9.out.grow hb10)
          clear hb10 E9
          go_wp2
          go_roundw
          case rel =>
            have R : i + 1 ≤ 60 ∧ Value.int .i64 ((i : Int) + 1) = .int .i64 ((i + 1 : Nat) : Int) ∧ RInv I w vP vQ g len z (i + 1) (.int .i64 ((knows len p.known).length : Nat)) (.slice am Ms.length cm) w10 := ⟨by omega, by simp, p, T, Ms, am, cm, rfl, rfl, HT10.out, HR.out, by omega, HN.out, hm1, by unfold maxLen; exact hm2'⟩
            first
              | exact ⟨i + 1, R⟩
              | ((repeat apply Exists.intro); exact ⟨⟨i + 1, R⟩, rfl⟩)
          case measure => simp [intOf]; omega
        · have TK := hide (I.take_ok HT8.out.stp n dn (by rw [HTF.out, if_neg hm]))
          unfold dropV at TK
          go_wp2_with fail
          refine (TK.out).mono ?_
          rintro e w9 ⟨vs9, q9, rfl, hp9, hl9, hs9, hk9, hf9⟩
          have HT9 := hide (HT8.out.takeP hs9 hk9 hf9)
          have HRT9 := hide (HRT.out q9 hp9)
          have HGr := hide (Rt.grows hp9)
          have hbk : w9.heap[w7.heap.size]? = w8.heap[w7.heap.size]? := hk9.block _ hbl8 HBox.out
          have e0 := (World.cell?_of_block (w := w8) (a := ⟨w7.heap.size, 0, none⟩) hbk).trans d0
          have e1 := (World.cell?_of_block (w := w8) (a := ⟨w7.heap.size, 1, none⟩) hbk).trans d1
          obtain ⟨a9, c9, rfl, hq9, hm9, _⟩ := hl9
          unfold maxLen at hm9
          have hcl := came_few len p.known q9.known
          have hkl9 := knows_len len q9.known
          have hHS : w.heap.size ≤ w9.heap.size := HT9.out.below.size
          have HNn : Hid ((T ++ [n]).Nodup) := List.nodup_append.2 ⟨HN.out, by simp, fun x hx y hy => by rw [List.mem_singleton.1 hy]; exact fun e => hm (e ▸ hx)⟩
          obtain ⟨i0, hi0, hz0, hz1, hz2⟩ := info_parts Tryd.infoDrop
          have Hi := hide hi0
          have Hz0 := hide hz0
          have Hz1 := hide hz1
          have Hz2 := hide hz2
          have HRow := hide (HT9.out.row.alloc (.cells #[.int .i64 (n : Nat), .string dn] 32))
          clear hp9 hs9 hk9 hf9 TK d0 d1 hbk hi0 hz0 hz1 hz2 HBox HDI HRT hm
          generalize hca : (came len p.known q9.known).length = ca at *
          go_wp2_with (first | (at_builtin; refine wpList_append_lies _ rfl _ _ 36 rfl w.heap.size 32 i0 _ 2 24 Tryd.underlying36 Hi.out Hz0.out Hz1.out Hz2.out rfl (by decide) (.slice am Ms.length cm) Ms.length (dC Ms) rfl HRow.out ⟨w9.heap.size, 0, none⟩ 1 1 [.int .i64 (n : Nat), .string dn] rfl rfl (World.news_of_block (cs := #[.int .i64 (n : Nat), .string dn]) (t := 32) (fr := (0, 0)) (heap_alloc_new w9 _)) (by simp [Value.oneCell']) (by omega) (by unfold maxLen; omega) (by omega) (by simp; omega) (w9.heap.size + 1) (by simp) ?_; intro gg cg w10 hown10 hgrow10 hat10 hlt10) | fail)
          go_roundw
          case rel =>
            have hT10 := HT9.out.grow ((Below.refl _ w9).alloc (Nat.le_refl _) (.cells #[.int .i64 (n : Nat), .string dn] 32))
            have hT11 := hT10.push (d := (n, dn)) (v := .slice (some ⟨gg, 0, none⟩) (Ms.length + 1) cg) hgrow10 (by rw [List.length_append, dC_snoc]; exact hown10) (by
              rcases hat10 with e | e
              · exact Or.inl e.symm
              · exact Or.inr ⟨gg, rfl, by rw [e]; simp⟩)
            have hcg : Ms.length + 1 ≤ cg ∧ cg ≤ maxLen := by
              rcases hown10.2 with ⟨hv, _⟩ | ⟨g', c', cur', hv, _, _, q1, q2, _⟩
              · cases hv
              · cases hv; exact ⟨q1, q2⟩
            have R : i + 1 ≤ 60 ∧ Value.int .i64 ((i : Int) + 1) = .int .i64 ((i + 1 : Nat) : Int) ∧ RInv I w vP vQ g len z (i + 1) (.int .i64 (((knows len p.known).length : Nat) + (ca : Int))) (.slice (some ⟨gg, 0, none⟩) (Ms.length + 1) cg) w10 := by
              refine ⟨by omega, by simp, q9, T ++ [n], Ms ++ [(n, dn)], some ⟨gg, 0, none⟩, cg, by simp, ?_, ?_, HRT9.out, by simp; omega, HNn.out, by simpa using hcg.1, hcg.2⟩
              · have := HGr.out
                congr 1
                omega
              · have e : (Ms ++ [(n, dn)]).length = Ms.length + 1 := by simp
                rw [e]; exact hT11
            first
              | exact ⟨i + 1, R⟩
              | ((repeat apply Exists.intro); exact ⟨⟨i + 1, R⟩, rfl⟩)
          case measure => simp [intOf]; omega
      · have MK := hide (make_seed b o len cap g n wr hpos h16 (HBk.out.below HWr.out).cells HBk.out.one HBk.out.eight HBk.out.same (by omega))
        unfold dropV at MK
        clear hn
        go_wp2_with fail
        refine (MK.out).mono ?_
        rintro e w7 ⟨rfl, hb7⟩
        have HT7 := hide ((HT.out.grow hb7).grow ((Below.refl _ w7).alloc (Nat.le_refl _) (.cells #[.int .i64 0, .string ⟨#[]⟩] 32)))
        clear hb7 MK hcSr
        go_wp2
        go_roundw
        case rel =>
          have R : i + 1 ≤ 60 ∧ Value.int .i64 ((i : Int) + 1) = .int .i64 ((i + 1 : Nat) : Int) ∧ RInv I w vP vQ g len z (i + 1) (.int .i64 ((knows len p.known).length : Nat)) (.slice am Ms.length cm) _ := ⟨by omega, by simp, p, T, Ms, am, cm, rfl, rfl, HT7.out, HR.out, by omega, HN.out, hm1, by unfold maxLen; exact hm2'⟩
          first
            | exact ⟨i + 1, R⟩
            | ((repeat apply Exists.intro); exact ⟨⟨i + 1, R⟩, rfl⟩)
        case measure => simp [intOf]; omega
    | false =>
      clear hr
      have HNT : Hid ((Ms.map Prod.fst).Nodup) := by rw [← HR.out.seeds]; exact HN.out
      have hM60 : Ms.length ≤ 60 := by omega
      have HQ0 : Hid (QInv I w vP vQ (.slice am Ms.length cm) g len z p T Ms Ms.length wr) := ⟨p0, [], HT.out, by rw [List.drop_length]; exact rt_none _ _⟩
      clear HN hMi hi
      go_wp2_with fail
      go_loopw [19] (fun t wx => ∃ c : Nat, c ≤ Ms.length ∧ t = .int .i64 ((c : Int) - 1) ∧ QInv I w vP vQ (.slice am Ms.length cm) g len z p T Ms c wx) (fun t _ => (intOf t + 1).toNat)
      case atStart => exact ⟨Ms.length, Nat.le_refl _, by simp, HQ0.out⟩
      case round =>
        obtain ⟨c, hc, rfl, q, Tq, hT2, hR2⟩ := hrel
        have HT2 := hide hT2
        have HR2 := hide hR2
        clear hT2 hR2
        by_cases hc0 : 0 < c
        · obtain ⟨c, rfl⟩ : ∃ d, c = d + 1 := ⟨c - 1, by omega⟩
          rw [show (((c + 1 : Nat) : Int) - 1) = (c : Int) by omega]
          have hcl : c < Ms.length := by omega
          obtain ⟨am', cm', hva, _, _, hva1, hva2⟩ := own_drops HT2.out.row
          injection hva with ea _ ec
          subst ea ec
          obtain ⟨gm, ha⟩ := hva1 (by omega)
          subst ha
          have hcc := hva2 gm rfl c hcl
          have hd1 := hcc.1
          have hd2 := hcc.2
          have hdt := HR.out.dropT hcl
          have hnew := left_new hcl HNT.out
          have hrev := drop_rev hcl
          have htq : Tq.length < 60 := by
            rw [HR2.out.seeds, List.length_map, List.length_reverse, List.length_drop]; omega
          have HRT : Hid (∀ a, Peels (setL len) ⟨q.known, q.B, q.L ++ [dAt Ms c]⟩ a → Rt g len a (Tq ++ [(dAt Ms c).1]) (Ms.drop c).reverse) := fun a ha => by
            rw [hrev]
            have e : dAt Ms c = ((dAt Ms c).1, dropB g len (dAt Ms c).1) := Prod.ext rfl hdt.2
            rw [e] at ha ⊢
            exact HR2.out.take hpos HBk.out.same hdt.1.1 hdt.1.2 ha
          have HTF := hide (tF_made (g := g) (k := len) (z := z) (n := (dAt Ms c).1) (T := Tq) ⟨hpos, h16⟩ ⟨⟨h1, h8⟩, by rw [HZ0.out, HZ.out]⟩ hdt.1.1 hdt.1.2 htq)
          rw [← hdt.2, if_neg (by rw [HR2.out.seeds]; exact hnew)] at HTF
          clear hcc hva1 hva2 hdt hnew hrev
          generalize hdd : dAt Ms c = dd at *
          obtain ⟨sd, bd⟩ := dd
          simp only at hd1 hd2 HTF HRT
          have TK := hide (I.take_ok HT2.out.stq sd bd HTF.out)
          unfold dropV at TK
          have hge : (0 : Int) ≤ (c : Int) := by omega
          clear hdd
          go_wp2_with fail
          refine (TK.out).mono ?_
          rintro e w9 ⟨vs9, q9, rfl, hp9, hl9, hs9, hk9, hf9⟩
          have HT9 := hide (HT2.out.takeQ hs9 hk9 hf9)
          have HRT9 := hide (HRT.out q9 hp9)
          clear hp9 hl9 hs9 hk9 hf9 TK hd1 hd2 HRT HTF
          go_wp2
          go_roundw
          case rel =>
            have R : c ≤ Ms.length ∧ Value.int .i64 ((c : Int) - 1) = .int .i64 ((c : Int) - 1) ∧ QInv I w vP vQ (.slice (some ⟨gm, 0, none⟩) Ms.length cm) g len z p T Ms c w9 := ⟨by omega, rfl, q9, Tq ++ [sd], HT9.out, HRT9.out⟩
            first
              | exact ⟨c, R⟩
              | ((repeat apply Exists.intro); exact ⟨⟨c, R⟩, rfl⟩)
          case measure => simp [intOf] <;> omega
        · obtain rfl : c = 0 := by omega
          rw [List.drop_zero] at HR2
          rw [show (((0 : Nat) : Int) - 1) = -1 by rfl]
          have hKE : q.known = p.known := (HR.out.took.same HR2.out.took (fun d => by simp)).symm
          have HLE := hide (HR.out.took.many HR2.out.took)
          have KP := hide (I.knows_ok HT2.out.stp)
          have HSoQ : Hid (∀ r, p.known r = true → q.B r = g r) := fun r hr => HR2.out.so r (by rw [hKE]; exact hr)
          have HKnQ : Hid (∀ r, p.known r = true → q.known r = true) := fun r hr => by rw [hKE]; exact hr
          have KQ := hide (fun w' (hb : Below wr.heap.size wr w') => I.knows_ok (HT2.out.grow hb).stq)
          rw [hKE] at KQ
          have WP := hide (fun w' (hb : Below wr.heap.size wr w') => I.waits_ok (HT2.out.grow hb).stp)
          have WQ := hide (fun w' (hb : Below wr.heap.size wr w') => I.waits_ok (HT2.out.grow hb).stq)
          rw [← HLE.out] at WQ
          have HKm : Hid (∀ j, j < (knows len p.known).length → (knows len p.known).getD j 0 < len ∧ p.known ((knows len p.known).getD j 0) = true) := fun j hj => knows_mem (by rw [show (knows len p.known).getD j 0 = (knows len p.known)[j] by simp [List.getD, hj]]; exact List.getElem_mem hj)
          clear hKE HLE HNT
          generalize knows len p.known = K at *
          generalize p.L.length = pl at *
          go_wp2_with fail
          refine (KP.out).mono ?_
          rintro e w9 ⟨vk, rfl, hl9, hb9⟩
          have HB9 := hide hb9
          have HL9 := hide hl9
          obtain ⟨ak, ck, rfl, hq9, hm9, _⟩ := hl9
          have Q9 := hide (KQ.out w9 hb9)
          unfold maxLen at hm9
          clear hb9 KP KQ
          go_wp2_with fail
          refine (Q9.out).mono ?_
          rintro e w10 ⟨vk2, rfl, hl10, hb10⟩
          have IT := hide (ints_same (by omega) (HL9.out.below hb10).ints hl10.ints)
          have HB10 := hide (below_two HB9.out hb10)
          have HL10 := hide (HL9.out.below hb10)
          clear hl10 hb10 Q9 HL9
          go_wp2_with fail
          refine (IT.out).mono ?_
          rintro e w11 ⟨rfl, hb11⟩
          have HB11 := hide (below_two HB10.out hb11)
          have HL11 := hide (HL10.out.below hb11)
          have P11 := hide (WP.out w11 HB11.out)
          clear hb11 IT HL10 HB10 HB9 WP
          go_wp2_with fail
          refine (P11.out).mono ?_
          rintro e w12 ⟨rfl, hb12⟩
          have HB12 := hide (below_two HB11.out hb12)
          have HL12 := hide (HL11.out.below hb12)
          have Q12 := hide (WQ.out w12 HB12.out)
          clear hb12 P11 HL11 HB11 WQ
          go_wp2_with fail
          refine (Q12.out).mono ?_
          rintro e w13 ⟨rfl, hb13⟩
          have HB13 := hide (below_two HB12.out hb13)
          have HL13 := hide (HL12.out.below hb13)
          clear hb13 Q12 HL12 HB12
          go_wp2_with fail
          go_loopw [23] (fun t wy => ∃ j : Nat, j ≤ K.length ∧ t = .int .i64 j ∧ Below w13.heap.size w13 wy) (fun t _ => K.length - (intOf t).toNat)
          case atStart => exact ⟨0, Nat.zero_le _, rfl, Below.refl _ _⟩
          case round =>
            obtain ⟨j, hj, rfl, hby⟩ := hrel
            have HBY := hide hby
            by_cases hjl : j < K.length
            · obtain ⟨_, _, hvk, _, _, hl13⟩ := HL13.out
              injection hvk with ea _ ec
              subst ea ec
              obtain ⟨gk, ck', hvk, _, _, hcell⟩ := hl13 (by omega)
              injection hvk with ea _ ec
              subst ea ec
              have hcj := cell_below hby (hcell j hjl)
              have hkm := HKm.out j hjl
              simp only [Nat.zero_add] at hcj
              have hjl' : (j : Int) < (K.length : Int) := by omega
              clear hcell hl13 hby
              generalize K.getD j 0 = r at *
              obtain ⟨hrl, hrk⟩ := hkm
              have HTy := hide (HT2.out.grow (below_two HB13.out HBY.out))
              have BP := hide (hI HTy.out.stp r hrl h16 hrk)
              have BQ := hide (fun w' (hb : Below wr.heap.size wr w') => hI (HTy.out.grow hb).stq r hrl h16 (HKnQ.out r hrk))
              rw [HR.out.so r hrk] at BP
              rw [HSoQ.out r hrk] at BQ
              have hcl := cell_below HTy.out.below (HBk.out.cells r hrl)
              have hr0 : (0 : Int) ≤ (r : Int) := by omega
              have hr1 : (r : Int) < (len : Int) := by omega
              clear hrk
              generalize g r = gr at *
              go_wp2_with fail
              refine (BP.out).mono ?_
              rintro e w14 ⟨rfl, hb14⟩
              have hcj2 := cell_below hb14 hcj
              have hcl2 := cell_below hb14 hcl
              have B14 := hide (BQ.out w14 hb14)
              have HB14 := hide (below_two HBY.out hb14)
              clear hb14 hcj hcl BP BQ
              go_wp2_with fail
              refine (B14.out).mono ?_
              rintro e w15 ⟨rfl, hb15⟩
              have hcj3 := cell_below hb15 hcj2
              have hcl3 := cell_below hb15 hcl2
              have HB15 := hide (below_two HB14.out hb15)
              clear hb15 hcj2 hcl2 B14
              go_wp2
              go_roundw
              case rel =>
                have R : j + 1 ≤ K.length ∧ Value.int .i64 ((j : Int) + 1) = .int .i64 ((j + 1 : Nat) : Int) ∧ Below w13.heap.size w13 w15 := ⟨by omega, by simp, HB15.out⟩
                first
                  | exact ⟨j + 1, R⟩
                  | ((repeat apply Exists.intro); exact ⟨⟨j + 1, R⟩, rfl⟩)
              case measure => simp [intOf]; omega
            · have hjl' : ¬ (j : Int) < (K.length : Int) := by omega
              go_wp2
              go_ret
              exact ⟨rfl, below_two (HT2.out.grow HB13.out).below HBY.out⟩

/-- Whatever it is handed. -/
theorem right_walk (I : PIm) (hI : Tells I) {w : World} (v : Value) (len : Nat) (g : Nat → ByteArray) (hv : StrsAt w v len g) (vs : Value) (m : Nat) (f : Nat → Int) (hS : IntsAt w vs m f) (hg : HasErr w) :
    Calls Tryd.prog 3 #[v, vs] w fun e w' => e = .returned (.bool true) ∧ Below w.heap.size w w' := by
  rcases check_ways hv with ⟨x, hx⟩ | ⟨b, o, cap, rfl, hlc, hcm, hB⟩
  · exact right_bad I hI v vs w x hx
  · exact right_ok I hI b o len cap g vs m f w hg hlc hcm hB hS

set_option maxRecDepth 100000 in
theorem peelRight_contract (H : Type) (enc : TypeId × Value → H) (W : World) (base : Nat) (args : Array Value) (ds gs : List (DataW H)) (before : List MemPlace)
    (hval : ∀ (j : Nat) t v, Tryd.f3.params[j]? = some t → args[j]? = some v → Value.okWide Tryd.prog W .any base t v)
    (hW : DataW.Whole enc Tryd.prog Tryd.f3.params.toList Rows.peelRightSpec.vars false W args.toList ds gs before) (hL : laidMetH Tryd.prog Rows.peelRightRow.laid W) :
    Calls Tryd.prog 3 args W fun e W' => ∃ v, e = .returned v ∧ Rows.peelRightSpec.post enc Tryd.prog Tryd.f3 false true false false W args v W' := by
  have hW' := hW
  have hlt0 := hW.lt
  obtain ⟨p, q, hA0, hV, rfl, hfz, hnd⟩ := hW
  have hA : DataW.TrodAll enc Tryd.prog W 0 (fun _ => true) true Tryd.f3.params.toList args.toList ds p := hA0
  rw [Tryd.params3] at hA hval
  have hAll := hA
  have hread : ∀ t ∈ [22, 23], Tryd.prog.readableRec t = true ∧ t < Tryd.prog.types.size := by
    intro t ht
    simp only [List.mem_cons, List.not_mem_nil, or_false] at ht
    rcases ht with rfl | rfl <;> exact ⟨by kernel_rfl, of_decide_eq_true (by kernel_rfl)⟩
  obtain ⟨v0, vs0, d0, ds0, p0, q0, hargs, rfl, rfl, h0, r0⟩ := trodAll_cons hA
  obtain ⟨v1, vs1, d1, ds1, p1, q1, rfl, rfl, rfl, h1, r1⟩ := trodAll_cons r0
  obtain ⟨rfl, rfl, rfl⟩ := trodAll_nil r1
  obtain rfl : args = #[v0, v1] := by cases args; simp_all
  obtain ⟨rfl, rfl⟩ := trodVars_none hV
  simp only [List.append_nil] at hW' hlt0
  have fin : ∀ W' : World, Below W.heap.size W W' → Rows.peelRightSpec.post enc Tryd.prog Tryd.f3 false true false false W #[v0, v1] (.bool true) W' := by
    intro W' hg
    refine ⟨_, _, _, [], (p0 ++ (p1 ++ [])), [], hW', ?_, ?_, ?_, hg.frame _, fun h => by cases h⟩
    · exact trodAll_mk1 (shut_bool Tryd.underlying4 true)
    · exact trodAll_below hg _ _ _ _ hread hAll (by simpa using hlt0)
    · rfl
  obtain ⟨l0, f0, hs0⟩ := open_strsAt (hval 0 22 v0 rfl rfl) h0
  obtain ⟨l1, f1, hs1⟩ := open_intsAt (hval 1 23 v1 rfl rfl) h1
  refine (right_walk peelI peelI_tells v0 l0 f0 hs0 v1 l1 f1 hs1 (w := W) (hasErr_of_laid hL)).mono fun e W' ⟨he, hg⟩ => ?_
  subst he
  exact ⟨_, rfl, fin W' hg⟩

theorem peelRight_met (os : Os) : laidMetH Tryd.prog Rows.peelRightRow.laid (({ World.holding Tryd.prog os ⟨#[], #[], []⟩ with heap := (World.holding Tryd.prog os ⟨#[], #[], []⟩).heap.modify 0 fun | .cells _ t frozen => .cells #[.iface 136 (.agg #[.pointer (some ⟨1, 26, none⟩)])] t frozen | o => o } : World).forCall (fun _ _ => 0) ⟨#[], #[.slice none 0 0, .slice none 0 0], []⟩).memory :=
  laidMetH_of_parts (laidMet_nil _ _) (by kernel_rfl)
theorem peelRight_reads (os : Os) {H : Type} (enc : TypeId × Value → H) : ∃ places, DataW.whole enc Tryd.prog (({ World.holding Tryd.prog os ⟨#[], #[], []⟩ with heap := (World.holding Tryd.prog os ⟨#[], #[], []⟩).heap.modify 0 fun | .cells _ t frozen => .cells #[.iface 136 (.agg #[.pointer (some ⟨1, 26, none⟩)])] t frozen | o => o } : World).forCall (fun _ _ => 0) ⟨#[], #[.slice none 0 0, .slice none 0 0], []⟩).memory Tryd.f3.params.toList Rows.peelRightSpec.vars false (#[.slice none 0 0, .slice none 0 0] : Array Value).toList 8 = some ([.nil, .nil], [], places) :=
  ⟨[], by kernel_rfl⟩
set_option maxRecDepth 100000 in
theorem peelRight_lifted (os : Os) (started : os.Started) (H : Type) (enc : TypeId × Value → H) (F : Stop.Interp) :
    ReturnsInHanded {} Tryd.checked os 3 .any ((OpenSpec.ofChange Rows.peelRightSpec).preRow enc Tryd.prog Tryd.f3 Rows.peelRightRow.domain false Rows.peelRightRow.laid) (((OpenSpec.ofChange Rows.peelRightSpec).at F).post enc Tryd.prog Tryd.f3 false true false false) := by
  obtain ⟨places, hx⟩ := peelRight_reads os enc
  refine returnsInHanded_of_row (C := Tryd.checked) (s := OpenSpec.ofChange Rows.peelRightSpec) own started (by kernel_rfl) Tryd.func3
    (witness_row_at (enc := enc) (C := Tryd.checked) false ({ World.holding Tryd.prog os ⟨#[], #[], []⟩ with heap := (World.holding Tryd.prog os ⟨#[], #[], []⟩).heap.modify 0 fun | .cells _ t frozen => .cells #[.iface 136 (.agg #[.pointer (some ⟨1, 26, none⟩)])] t frozen | o => o } : World) #[.slice none 0 0, .slice none 0 0] rfl (by kernel_rfl) (by kernel_rfl) (by kernel_rfl)
      (OpenSpec.preRow_of_cond 8 hx (by kernel_rfl) (fun k hk => by cases hk) (by kernel_rfl) (peelRight_met os))) ?_
  intro W base args ds gs before hval hW _ _ _ hL _ _
  exact peelRight_contract H enc W base args ds gs before hval hW hL

theorem peelRight_said : Rows.PeelRightSaid :=
  OpenClaim.holds_of_cond 3 Tryd.f3 rfl rfl rfl rfl rfl rfl rfl ⟨rfl, rfl, rfl, rfl, rfl⟩ rfl rfl rfl rfl rfl (by kernel_rfl) Tryd.func3 (by kernel_rfl)
    (of_decide_eq_true (by kernel_rfl)) (by unfold Func.isWrapper; first | (rw [if_pos (by decide +kernel)]; kernel_rfl) | (rw [if_neg (by decide +kernel)]; exact ⟨rfl, rfl⟩))
    (fun os started H enc _ F => by rw [OpenClaim.pre_eq_preRow]; exact peelRight_lifted os started H enc F)

theorem peelRight_plain (f : FuncId) (fn : Func) (hf : Tryd.pinned.checked.prog.funcNamed "dropletmill/droplaw1.PeelRight" = some f) (hfn : Tryd.pinned.checked.prog.funcs[f]? = some fn) :
    true = Tryd.pinned.checked.prog.looks [] ∧ ∀ (j : Nat) t, fn.params[j]? = some t → Tryd.pinned.checked.prog.wantsStandIn t = false := by
  obtain rfl : f = 3 := Option.some.inj ((show Tryd.prog.funcNamed "dropletmill/droplaw1.PeelRight" = some 3 by kernel_rfl).symm.trans hf) |>.symm
  obtain rfl : fn = Tryd.f3 := (Option.some.inj (Tryd.func3.symm.trans hfn)).symm
  refine ⟨by kernel_rfl, fun j t ht => ?_⟩
  rw [Tryd.params3] at ht
  have hm := Array.mem_of_getElem? ht
  simp only [List.mem_toArray, List.mem_cons, List.mem_nil_iff, or_false] at hm
  rcases hm with rfl | rfl
  · exact (show Tryd.prog.wantsStandIn 22 = false by kernel_rfl)
  · exact (show Tryd.prog.wantsStandIn 23 = false by kernel_rfl)

theorem peelRight_card : Rows.PeelRightCardSaid :=
  Claim7.holds_tied_plain_at .later [] _ _ _ _ peelRight_said (fun _ h => by cases h) (by kernel_rfl) (fun _ h => by cases h) peelRight_row_tie rfl ⟨rfl, rfl⟩ (by kernel_rfl) rfl peelRight_plain (by kernel_rfl)
#print axioms peelRight_card
end Go.Proofs.YtopibfbpecjgbaaDoor
