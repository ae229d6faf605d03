/-
  Lemmas for the law above, joined into one text (PPeel). No statement is proved here.
-/
import Derived.Test.YtjhflcgphejddaaGreatDoorZG23
import Derived.Deep.RegionHeld3
import Derived.Deep.RegionWith
import Derived.Deep.DeepCutAuto
import Derived.Deep.CutRange
import Derived.Deep.LoopGhost
namespace Go.Proofs.YtjhflcgphejddaaGreatDoor
open Go.RowKit Go.Maps
set_option linter.unusedVariables false
set_option maxRecDepth 100000

theorem came_rises (k : Nat) (kn kn' : Nat → Bool) : (came k kn kn').Pairwise (· < ·) := List.pairwise_lt_range.filter _
theorem came_perm {k x : Nat} {kn kn' : Nat → Bool} {l : List Nat} (hx : x < k) (h1 : kn x = false) (h2 : kn' x = false) (h : l.Perm (came k kn kn')) : (l ++ [x]).Perm (came k kn (upd kn' x true)) := by
  obtain ⟨A, B, e1, e2, _, _⟩ := came_ins hx h1 h2
  rw [e2]
  rw [e1] at h
  exact (List.perm_append_comm.trans (List.Perm.cons x h)).trans List.perm_middle.symm
theorem came_few (k : Nat) (kn kn' : Nat → Bool) : (came k kn kn').length ≤ k := Nat.le_trans (List.length_filter_le _ _) (by simp)
theorem dAt_map (X : List Wtr) (j : Nat) (h : j < X.length) : dAt (X.map Wtr.d) j = (wAt X j).d := by simp [dAt, wAt, List.getD, h]

/-- Behind the first step of a round. -/
def Sifted (wr : World) (b tb kb k z c : Nat) (p : PS) (T : List Nat) (vW : Value) (X : List Wtr) (t : Value) (wx : World) : Prop :=
  t.ownBlock = vW.ownBlock ∧ wx.cell? ⟨c, 0, none⟩ = some (.pointer (some ⟨b, 0, none⟩)) ∧ Kept (fun i => i = b ∨ vW.ownBlock = some i) wr wx ∧ PQ wx b tb kb k z ⟨p.known, p.B, sift (setL k) p.known p.L⟩ T t (X.filter fun x => !(lfn k p.known x == 0))
theorem Kept.wider {M M' : Nat → Prop} {w w' : World} (h : Kept M w w') (hm : ∀ i, M i → M' i) : Kept M' w w' := ⟨h.os, h.tape, h.output, h.size, fun i hi hn => h.block i hi (fun e => hn (hm i e))⟩
theorem Kept.transP {M : Nat → Prop} {w0 w w' : World} (h : Kept M w0 w) (k : Kept M w w') : Kept M w0 w' := ⟨k.os.trans h.os, k.tape.trans h.tape, k.output.trans h.output, Nat.le_trans h.size k.size, fun i hi hn => (k.block i (Nat.lt_of_lt_of_le hi h.size) hn).trans (h.block i hi hn)⟩
theorem sift_step {w wr : World} {b tb kb k z c : Nat} {p : PS} {T : List Nat} {vW : Value} {X : List Wtr} (hr : PQ wr b tb kb k z p T vW X) (hcr : wr.cell? ⟨c, 0, none⟩ = some (.pointer (some ⟨b, 0, none⟩))) (hv : vW.ownBlock ≠ some c) (hcb : c ≠ b) (hb : Below wr.heap.size wr w) :
    Calls Tryz.prog 147 #[vW, .func (.func 148) #[] #[.pointer (some ⟨c, 0, none⟩)]] w fun e w' => ∃ a1 n1 c1, e = .returned (.slice a1 n1 c1) ∧ w'.cell? ⟨c, 0, none⟩ = some (.pointer (some ⟨b, 0, none⟩)) ∧ w'.cell? ⟨b, 4, none⟩ = some vW ∧ w'.frozen? ⟨b, 4, none⟩ = false ∧ Sifted wr b tb kb k z c p T vW X (.slice a1 n1 c1) (w'.setCell ⟨b, 4, none⟩ (.slice a1 n1 c1)) := by
  have h := hr.below hb
  have hc := cell_below hb hcr
  obtain ⟨D, hR⟩ := h.read hc
  have hlen := h.len
  have hfew := h.few
  refine (delw_ok 0 c (fun x => lfn k p.known x == 0) h.row (by omega) fun W x hk hx => ?_).mono ?_
  · refine none_ok c b kb k p.known p.B D X x W h.nk.1 h.nk.2 (hR.keep ?_ ?_ ?_ fun y hy => ?_) hx
    · exact hk.block c (cell_lt hc) hv
    · exact hk.block b (h.flt b (Or.inl rfl)) (fun e => (h.apW b e).1 rfl)
    · exact hk.block kb (h.flt kb (Or.inr (Or.inr (Or.inl rfl)))) (fun e => (h.apW kb e).2.2 rfl)
    · exact hk.block y.g (h.flt y.g (Or.inr (Or.inr (Or.inr (Or.inr ⟨y, hy, rfl⟩))))) (h.apX y hy).2.2.2
  · rintro e w' ⟨v', rfl, ho, hk, he⟩
    obtain ⟨a1, c1, rfl, _⟩ := own_wtrs ho
    have hb1 : w'.heap[b]? = w.heap[b]? := hk.block b (h.flt b (Or.inl rfl)) (fun e => (h.apW b e).1 rfl)
    have hc1 : w'.heap[c]? = w.heap[c]? := hk.block c (cell_lt hc) hv
    have hc2 := (World.cell?_of_block (w := w) (a := ⟨c, 0, none⟩) hc1).trans hc
    refine ⟨a1, _, c1, rfl, hc2, (World.cell?_of_block (w := w) hb1).trans h.cw, (World.frozen?_of_block (w := w) hb1).trans h.cf, he, ?_, ?_, h.siftd hk ho he⟩
    · exact (World.cell?_setCell_other _ _ _ _ (fun e => hcb (by injection e with e1; exact e1.symm))).trans hc2
    · exact (((Kept.refl _ wr).below hb).transP (hk.wider fun i e => Or.inr e)).setCell ⟨b, 4, none⟩ _ (Or.inl (Or.inl rfl))

/-- As it goes, round by round. -/
def PInv (w0 : World) (b tb kb k z : Nat) (p : PS) (T : List Nat) (vW0 : Value) (X0 : List Wtr) (gk : Nat) (vf : Value) (wr : World) : Prop :=
  ∃ q X vW fl, PQ wr b tb kb k z q T vW X ∧ vW.ownBlock = vW0.ownBlock ∧ (∀ x ∈ X, x ∈ X0) ∧ Kept (fun i => i = b ∨ i = kb ∨ vW0.ownBlock = some i) w0 wr ∧ wr.cell? ⟨w0.heap.size, 0, none⟩ = some (.pointer (some ⟨b, 0, none⟩)) ∧
    wr.ownsRow (w0.heap.size + 1) 3 1 vf fl.length (toV fl) ∧ fl.Perm (came k p.known q.known) ∧ (∀ r, p.known r = true → q.known r = true) ∧ (∀ a, Peels (setL k) q a → Peels (setL k) p a) ∧ unk k q.known + 1 ≤ gk
/-- What it leaves. -/
def Peeled (w0 : World) (b tb kb k z : Nat) (p : PS) (T : List Nat) (vW0 : Value) (X0 : List Wtr) (v : Value) (w' : World) : Prop :=
  ∃ q X vW, Peels (setL k) p q ∧ Lsh w' v (came k p.known q.known) ∧ PQ w' b tb kb k z q T vW X ∧ vW.ownBlock = vW0.ownBlock ∧ (∀ x ∈ X, x ∈ X0) ∧ Kept (fun i => i = b ∨ i = kb ∨ vW0.ownBlock = some i) w0 w' ∧ ∀ i, v.ownBlock = some i → w0.heap.size ≤ i

set_option maxHeartbeats 4000000 in
theorem peel_ok (b tb kb k z : Nat) (p : PS) (T : List Nat) (vW : Value) (X : List Wtr) (w : World) (h : PQ w b tb kb k z p T vW X) :
    Calls Tryz.prog 120 #[.pointer (some ⟨b, 0, none⟩)] w fun e w' => ∃ v, e = .returned (.tuple #[v, .nilIface]) ∧ Peeled w b tb kb k z p T vW X v w' := by
  have H := hide h
  have hbw := h.flt b (Or.inl rfl)
  have hkw := h.flt kb (Or.inr (Or.inr (Or.inl rfl)))
  have HW : Hid (∀ i, vW.ownBlock = some i → i < w.heap.size) := fun i e => (h.row.lt i e).2
  have hb0 : Below w.heap.size w (w.alloc (.cells #[.pointer (some ⟨b, 0, none⟩)] 80)) := (Below.refl _ _).alloc (Nat.le_refl _) _
  have HB0 := hide hb0
  have hnk := h.nk
  clear h hb0
  go_enter Tryz.func120, Tryz.ntmps120
  go_wp2_with fail
  go_loopg [4] (unk k p.known + 1) (fun gk vf wr => PInv w b tb kb k z p T vW X gk vf wr)
  case atStart =>
    refine ⟨p, X, vW, [], H.out.below HB0.out, rfl, fun x hx => hx, (Kept.refl _ w).below HB0.out, by simp, World.ownsRow_nil _ _ _ _, ?_, fun r h => h, fun a h => h, Nat.le_refl _⟩
    have e : came k p.known p.known = [] := List.filter_eq_nil_iff.2 fun r _ => by cases p.known r <;> simp
    rw [e]
  case round =>
    obtain ⟨q, Xq, vq, fl, hQ, hvo, hXs, hKp, hbx, hfl, hperm, hgr, hto, hun⟩ := hrel
    have HQ := hide hQ
    have HVO := hide hvo
    have HXS := hide hXs
    have HKP := hide hKp
    have HFL := hide hfl
    have HPM := hide hperm
    have HGR := hide hgr
    have HTO := hide hto
    have hcw := hQ.cw
    have hcf := hQ.cf
    have hnb : w.heap.size ≠ b := by omega
    have hbx' := hbx
    have S1 := hide (fun W (hb : Below wr.heap.size wr W) => sift_step (c := w.heap.size) HQ.out hbx' (fun e => by rw [HVO.out] at e; have := HW.out _ e; omega) hnb hb)
    obtain ⟨aq, cq, hveq, hq1, hq2, _⟩ := own_wtrs hQ.row
    have HVE := hide hveq
    rw [hveq] at hcw S1
    clear hQ hvo hXs hKp hfl hperm hgr hto hveq hbx'
    unfold maxLen at hq2
    go_upto_region 2 with fail
    go_cut [16] from 10 to 61 (fun t wx => ∃ a1 n1 c1, t = .slice a1 n1 c1 ∧ Sifted wr b tb kb k z w.heap.size q T (.slice aq Xq.length cq) Xq (.slice a1 n1 c1) wx)
    case first =>
      go_region_with (first | (go_at_call 147; refine (S1.out _ ((Below.refl _ _).drew)).mono ?_; rintro e w1 ⟨a1, n1, c1, rfl, hs1, hs2, hs3, hs4⟩))
      all_goals
        go_wp2_with fail
        go_meet
        exact ⟨a1, n1, c1, rfl, hs4⟩
    case rest =>
    obtain ⟨a1, n1, c1, htc, hs1, hs2, hs3, hs4⟩ := hcut
    clear htc S1 hcw hcf hbx
    have HQ1 := hide hs4
    have HV1 := hide hs1
    have HK1 : Hid (Kept (fun i => i = b ∨ i = kb ∨ vW.ownBlock = some i) w wc) := HKP.out.transP (hs3.wider fun i e => e.imp id fun e => Or.inr (by rw [← HVO.out, HVE.out]; exact e))
    have HF1 : Hid (wc.ownsRow (w.heap.size + 1) 3 1 u4 fl.length (toV fl)) := own_blk HFL.out fun i e => hs3.block i (HFL.out.lt i e).2 (fun e2 => by
      have h9 := (HFL.out.lt i e).1
      rcases e2 with e2 | e2
      · omega
      · have := HW.out i (by rw [← HVO.out, HVE.out]; exact e2); omega)
    have hbx := hs2
    have hcw := hs4.cw
    have HFlt : Hid (∀ i, PF b tb kb (.slice a1 n1 c1) (Xq.filter fun x => !(lfn k q.known x == 0)) i → i < w.heap.size) := fun i hi => H.out.flt i (by
      rcases hi with e | e | e | e | ⟨x, hx, e⟩
      · exact Or.inl e
      · exact Or.inr (Or.inl e)
      · exact Or.inr (Or.inr (Or.inl e))
      · exact Or.inr (Or.inr (Or.inr (Or.inl (by rw [← HVO.out, HVE.out, ← HV1.out]; exact e))))
      · exact Or.inr (Or.inr (Or.inr (Or.inr ⟨x, HXS.out x (List.mem_filter.1 hx).1, e⟩))))
    have HSub : Hid (∀ x ∈ (Xq.filter fun x => !(lfn k q.known x == 0)), x ∈ X) := fun x hx => HXS.out x (List.mem_filter.1 hx).1
    have HXL : Hid ((Xq.filter fun x => !(lfn k q.known x == 0)).map Wtr.d = sift (setL k) q.known q.L) := hs4.xs
    obtain ⟨D2, hR2⟩ := hs4.read hs2
    have IX := hide (idxO_ok 0 w.heap.size (fun x => lfn k q.known x == 1) hs4.row fun W x hb hx => one_ok w.heap.size b kb k q.known q.B D2 _ x W hnk.1 hnk.2 (hR2.below hnk.1 hnk.2 hb) hx)
    have HL1 := hide hs4.len
    obtain ⟨a1', c1', hv1, hr1, hr2, hr3, hr4⟩ := own_wtrs hs4.row
    injection hv1 with ea en ec
    subst ea en ec
    have HR3 := hide hr3
    have HR4 := hide hr4
    unfold maxLen at hr2
    clear hs1 hs2 hs3 hs4 hr3 hr4 hR2 HFL HKP HXS
    generalize hX1 : (Xq.filter fun x => !(lfn k q.known x == 0)) = X1 at *
    clear hX1
    go_wp2_with fail
    refine (IX.out).mono ?_
    rintro e w2 ⟨i2, rfl, hi2, hb2⟩
    have HQ2 := hide (HQ1.out.below hb2)
    have HF2 := hide (own_under' HF1.out hb2)
    have HK2 := hide (HK1.out.below hb2)
    have hbx2 := cell_below hb2 hbx
    have hcw2 := cell_below hb2 hcw
    have HB2 := hide hb2
    clear IX hb2 HQ1 HF1 HK1 hbx hcw
    rcases hi2 with ⟨rfl, hall⟩ | ⟨j0, rfl, hj0, hd0, hno⟩
    · have HALL := hide hall
      clear hall
      have SO := hide (sort_ok _ HF2.out (Nat.le_trans (by rw [HPM.out.length_eq]; exact came_few _ _ _) hnk.2) HPM.out (came_rises _ _ _))
      go_wp2_with fail
      refine (SO.out).mono ?_
      rintro e w3 ⟨rfl, ho3, hg3⟩
      have HO3 := hide ho3
      have HG3 := hide hg3
      clear ho3 hg3 SO
      go_wp2
      go_ret2
      refine ⟨_, rfl, ⟨q.known, q.B, sift (setL k) q.known q.L⟩, X1, _, HTO.out _ (Peels.done ?_), own_lsh HO3.out, HQ2.out.keep fun i hi => HG3.out.block i (HQ2.out.flt i hi) fun e => ?_, by rw [HV1.out, ← HVE.out, HVO.out], HSub.out, ?_, fun i e => ?_⟩
      · show (sift (setL k) q.known q.L).find? _ = none
        rw [← HXL.out]
        refine find_none fun i hi => ?_
        rw [List.length_map] at hi
        rw [dAt_map X1 i hi]
        exact HALL.out i hi
      · have h9 := (HF2.out.lt i e.symm).1
        have := HFlt.out i hi
        omega
      · exact HK2.out.grown HG3.out fun i e => Or.inr (by have := (HF2.out.lt i e).1; omega)
      · have := (HO3.out.lt i e).1; omega
    · obtain ⟨g1, ha1⟩ := HR3.out (by omega)
      subst ha1
      have hc1 := cell_below HB2.out (HR4.out g1 rfl j0 hj0).1
      have hc2 := cell_below HB2.out (HR4.out g1 rfl j0 hj0).2
      have hxm := wAt_mem hj0
      have HFind : Hid (oneOf (setL k) q = some (wAt X1 j0).d) := by
        show (sift (setL k) q.known q.L).find? _ = _
        rw [← HXL.out, ← dAt_map X1 j0 hj0]
        refine find_first (by rw [List.length_map]; exact hj0) (fun i hi => ?_) ?_
        · rw [dAt_map X1 i (by omega)]; exact hno i hi
        · rw [dAt_map X1 j0 hj0]; exact hd0
      obtain ⟨x, hx⟩ : ∃ x, lft (setL k) q.known (wAt X1 j0).d = [x] := List.length_eq_one_iff.1 (by simpa [lfn] using hd0)
      have HX := hide hx
      have hy := HQ2.out.seeds _ hxm
      have HS := hide (HQ2.out.sets _ hxm)
      clear hno hd0 hx hxm
      generalize wAt X1 j0 = y at *
      obtain ⟨gy, ny, cy, sy, ty⟩ := y
      simp only at hc1 hc2 hy HS HX HFind
      have hxq : Hid (x ∈ setL k sy ∧ q.known x = false) := mem_lft.1 (show x ∈ lft (setL k) q.known (sy, ty) by rw [HX.out]; simp)
      have hxk : x < k := setL_lt hnk.1 hy.1 hxq.out.1
      have hba : Below w2.heap.size w2 (w2.alloc (.cells #[.slice (some ⟨gy, 0, none⟩) ny cy, .string ty] 183)) := (Below.refl _ _).alloc (Nat.le_refl _) _
      have HQ3 := hide (HQ2.out.below hba)
      obtain ⟨D3, hD3⟩ := HQ3.out.kn
      have hnz := HQ3.out.nz
      have RS := hide (rest_ok b kb k sy x z q.known q.B D3 _ ty _ hnk.1 hnk.2 hy.1 hy.2.1 hnz.2 HQ3.out.cn hD3 (HS.out.below hba) HX.out hy.2.2 HQ3.out.good.2)
      have HBA := hide hba
      have hbx3 := cell_below hba hbx2
      have hn := wtr_new w2 (.slice (some ⟨gy, 0, none⟩) ny cy) (.string ty)
      clear hba hD3
      go_wp2_with fail
      refine (RS.out).mono ?_
      rintro e w4 ⟨rfl, hb4⟩
      have HQ4 := hide (HQ3.out.below hb4)
      obtain ⟨D4, hD4⟩ := HQ4.out.kn
      have HB4 := hide (below_two HBA.out hb4)
      have hbx4 := cell_below hb4 hbx3
      have hn1 := cell_below hb4 hn.1
      have hn2 := cell_below hb4 hn.2
      have LF := hide (pleft_ok b kb k sy q.known q.B D4 _ ty w4 hnk.1 hnk.2 hy.1 hy.2.1 HQ4.out.cn hD4 (HS.out.below HB4.out))
      rw [HX.out] at LF
      have hos : Hid ((outB q.B x (setL k sy) ty).size = z) := by rw [Hid, outB_size]; exact hy.2.2
      clear hb4 hD4 hn HQ3 HBA hbx3 hc1 hc2 RS hcw2
      generalize hob : outB q.B x (setL k sy) ty = ob at *
      have HOB := hide hob
      clear hob
      go_wp2_with fail
      refine (LF.out).mono ?_
      rintro e w5 ⟨v5, rfl, hl5, hb5, hf5⟩
      obtain ⟨a5, c5, rfl, hq5, hm5, hl5'⟩ := hl5
      obtain ⟨g5, c5', hv5, _, _, hcell5⟩ := hl5' (by simp)
      injection hv5 with ea5 _ ec5
      subst ea5 ec5
      have hx5 := hcell5 0 (by simp)
      simp only [Nat.zero_add, List.getD_cons_zero] at hx5
      have HQ5 := hide (HQ4.out.below hb5)
      obtain ⟨D5, hD5⟩ := HQ5.out.kn
      have HD5 := hide hD5
      have hcn5 := HQ5.out.cn
      have hbx5 := cell_below hb5 hbx4
      have HB5 := hide (below_two (below_two HB2.out HB4.out) hb5)
      have HK5 := hide ((HK2.out.below HB4.out).below hb5)
      have HF5 := hide (own_under' (own_under' HF2.out HB4.out) hb5)
      have hfew := hD5.few
      have hn16 : Hid (Maps.size D5 < maxLen) := by unfold Hid maxLen; omega
      unfold maxLen at hm5
      have hfl16 : fl.length ≤ 16 := Nat.le_trans (by rw [HPM.out.length_eq]; exact came_few _ _ _) hnk.2
      have hw5 : w.heap.size ≤ w5.heap.size := HK5.out.size
      have HKE := hide (key16 (r := x) (by omega))
      have HKF : Hid (kb ≠ w.heap.size) := by unfold Hid; omega
      have hub : Hid (∀ i, u4.ownBlock = some i → w.heap.size + 1 ≤ i) := fun i e => (HF5.out.lt i e).1
      have hcl : Hid (w.heap.size < w5.heap.size) := cell_lt hbx5
      obtain ⟨i0, hi0, hz0, hz1, hz2⟩ := info_parts Tryz.infoInt
      have Hi := hide hi0
      have Hz0 := hide hz0
      have Hz1 := hide hz1
      have Hz2 := hide hz2
      clear hcell5 hl5' hi0 hz0 hz1 hz2 hD5 hf5 hn1 hn2 hbx4 HQ4 LF hb5 hbx2
      go_wp2_with (first
        | (at_mapUpdate; refine wpList_mapUpdate_own _ rfl _ _ _ 115 rfl 3 229 Tryz.lawInt Tryz.underlying115 blkElem kb (Maps.size D5) D5 rfl HD5.out.own hn16.out _ _ _ rfl rfl HKE.out _ [] (blkElem_mk ob) ?_; intro w6 hown6 hgrow6; have HF6 := hide (own_blk HF5.out fun i e => hgrow6.block i (HF5.out.lt i e).2 (fun e2 => by have := hub.out i e; cases e2; omega)); have hw6 := Nat.lt_of_lt_of_le hcl.out hgrow6.size)
        | (at_builtin; refine wpList_append_own _ rfl _ _ 23 rfl (w.heap.size + 1) 3 i0 (.int .i64 0) 1 8 Tryz.underlying23 Hi.out Hz0.out Hz1.out Hz2.out rfl (by decide) _ _ _ rfl (HF6.out.alloc _) ⟨w6.heap.size, 0, none⟩ 1 1 [.int .i64 (x : Nat)] rfl rfl (cell_one_new _ _ _) (fun y hy => by simp at hy; subst hy; rfl) (by unfold maxLen; omega) (by omega) (by simp; omega) ?_; intro v7 w7 hown7 hgrow7 hnil7)
        | fail)
      go_roundg (gk - 1)
      case measure => omega
      case rel =>
        have HBA6 : Below w6.heap.size w6 (w6.alloc (.cells #[.int .i64 (x : Nat)] 3)) := (Below.refl _ _).alloc (Nat.le_refl _) _
        have hQ6 := (HQ5.out.tell hgrow6 HD5.out hxq.out.2 hxk hos.out hown6).below HBA6
        have hpx : p.known x = false := by
          cases e : p.known x with
          | false => rfl
          | true => have := HGR.out x e; rw [hxq.out.2] at this; cases this
        refine ⟨⟨upd q.known x true, upd q.B x ob, sift (setL k) q.known q.L⟩, X1, _, fl ++ [x], hQ6.keep fun i hi => hgrow7.block i (hQ6.flt i hi) fun e => ?_, by rw [HV1.out, ← HVE.out, HVO.out], HSub.out, ?_, ?_, ?_, came_perm hxk hpx hxq.out.2 HPM.out, fun r hr => upd_grows x r (HGR.out r hr), fun a ha => HTO.out a (Peels.step HFind.out HX.out ?_), ?_⟩
        · have := hub.out i e.symm
          have := HFlt.out i hi
          omega
        · refine Kept.grown ((HK5.out.grown hgrow6 fun i e => Or.inl (Or.inr (Or.inl (by cases e; rfl)))).below HBA6) hgrow7 fun i e => Or.inr (by have := hub.out i e; omega)
        · refine (World.cell?_of_block (w := w6.alloc (.cells #[.int .i64 (x : Nat)] 3)) (hgrow7.block _ (by simp; omega) fun e => ?_)).trans (cell_below HBA6 ((World.cell?_of_block (w := w5) (hgrow6.block _ hcl.out fun e => ?_)).trans hbx5))
          · have := hub.out _ e.symm; simp at this; omega
          · cases e; exact HKF.out rfl
        · rw [List.length_append, show toV (fl ++ [x]) = toV fl ++ [.int .i64 (x : Nat)] by simp [toV]]
          exact hown7
        · have e : after (setL k) q (sy, ty) x = ⟨upd q.known x true, upd q.B x ob, sift (setL k) q.known q.L⟩ := by
            unfold after
            show PS.mk _ (upd q.B x (outB q.B x (setL k sy) ty)) _ = _
            rw [HOB.out]
          rw [e]; exact ha
        · have := unk_less hxq.out.2 hxk
          show unk k (upd q.known x true) + 1 ≤ gk - 1
          omega
end Go.Proofs.YtjhflcgphejddaaGreatDoor
