/-
  Lemmas for the law above, joined into one text (PTake). No statement is proved here.
-/
import Derived.Test.YtjhflcgphejddaaGreatDoorZPPeel
import Derived.Test.YtjhflcgphejddaaGreatDoorZG17
import Derived.Test.YtjhflcgphejddaaGreatDoorZSetNew
import Derived.Deep.RegionLaw
import Derived.Deep.DrawnRows
namespace Go.Proofs.YtjhflcgphejddaaGreatDoor
open Go.RowKit Go.Maps
set_option linter.unusedVariables false
set_option maxRecDepth 100000

/-- 'had' of a set, in any world that has it. -/
theorem MSet.look {w : World} {b : Nat} {l : List Nat} {D : DataW Unit} (h : MSet w b l D) {r : Nat} (hr : r ≤ 10000) : (Instr.lookup 114 (.map (some b)) (.int .i64 (r : Nat)) true).run Tryz.prog w = .ok (.tuple #[.agg #[], .bool (decide (r ∈ l))]) w := by
  obtain ⟨v, ps, h1, h2⟩ := h.1.look_ok Tryz.lawInt Tryz.underlying114 (Tryz.zeroUnit w) unitElem_mk (key16 hr)
  obtain ⟨rfl, _⟩ := unitElem_inv h2
  rw [h1, h.2.2 r]

/-- A seed is taken. -/
theorem PQ.took {w w1 : World} {b tb kb k z seed : Nat} {p : PS} {T : List Nat} {vW : Value} {X : List Wtr} {D : DataW Unit} (h : PQ w b tb kb k z p T vW X) (hg : w.grownBy w1 (some tb)) (hM : MSet w tb T D) (hm : seed ∉ T) (h60 : T.length < 60)
    (h' : w1.ownsMap Tryz.prog 3 unitElem tb (T.length + 1) (D.put (.int .i64 seed) (.agg []))) : PQ w1 b tb kb k z p (T ++ [seed]) vW X := by
  have hw : ∀ i, i ≠ tb → PF b tb kb vW X i → w1.heap[i]? = w.heap[i]? := fun i hi hp => hg.block i (h.flt i hp) (fun e => hi (Option.some.inj e))
  have hb1 := hw b h.nbt (Or.inl rfl)
  have hc : ∀ i, w1.cell? ⟨b, i, none⟩ = w.cell? ⟨b, i, none⟩ := fun i => World.cell?_of_block (w := w) hb1
  have hf : ∀ i, w1.frozen? ⟨b, i, none⟩ = w.frozen? ⟨b, i, none⟩ := fun i => World.frozen?_of_block (w := w) hb1
  obtain ⟨Dk, hk⟩ := h.kn
  have hfew := h.few
  exact ⟨(hc 0).trans h.ck, (hc 1).trans h.cz, (hc 2).trans h.ct, (hc 3).trans h.cn, (hc 4).trans h.cw, (hf 4).trans h.cf, ⟨_, hM.put h' (l' := T ++ [seed]) (fun a => by simp [or_comm]) (by rw [if_neg hm]; simp)⟩, ⟨Dk, hk.of_block (hw kb h.ntk.symm (Or.inr (Or.inr (Or.inl rfl))))⟩, own_blk h.row fun i e => hw i (h.apW i e).2.1 (Or.inr (Or.inr (Or.inr (Or.inl e)))), h.xs, fun y hy => (h.sets y hy).of_block (hw y.g (h.apX y hy).2.1 (Or.inr (Or.inr (Or.inr (Or.inr ⟨y, hy, rfl⟩))))), h.good, by rw [List.length_append]; simp; omega, h.lt, h.nk, h.nz, h.nbt, h.nbk, h.ntk, h.apW, h.apX⟩
/-- A drop waits, behind those that wait. -/
theorem PQ.add {w w1 : World} {b tb kb k z : Nat} {p : PS} {T : List Nat} {vW v : Value} {X : List Wtr} {x : Wtr} (h : PQ w b tb kb k z p T vW X) (hg : w.grownBy w1 vW.ownBlock) (hv : w1.ownsRow 0 183 2 v (X ++ [x]).length (wC (X ++ [x])))
    (hat : v.ownBlock = vW.ownBlock ∨ ∃ i, v.ownBlock = some i ∧ w.heap.size ≤ i) (hx : Lst w (.slice (some ⟨x.g, 0, none⟩) x.n x.c) (setL k x.d.1)) (hxl : x.g < w.heap.size) (hxf : ¬ PF b tb kb vW X x.g) (hd : 1 ≤ x.d.1 ∧ x.d.1 ≤ 10000 ∧ x.d.2.size = z) (hl : p.L.length < T.length) :
    PQ (w1.setCell ⟨b, 4, none⟩ v) b tb kb k z ⟨p.known, p.B, p.L ++ [x.d]⟩ T v (X ++ [x]) := by
  have hw : ∀ i, i ≠ b → i < w.heap.size → vW.ownBlock ≠ some i → (w1.setCell ⟨b, 4, none⟩ v).heap[i]? = w.heap[i]? := fun i hi hp hn =>
    (Below.heap_setCell w1 ⟨b, 4, none⟩ v i hi).trans (hg.block i hp (fun e => hn e.symm))
  have hnb : vW.ownBlock ≠ some b := fun e => (h.apW b e).1 rfl
  have hb1 : w1.heap[b]? = w.heap[b]? := hg.block b (h.flt b (Or.inl rfl)) (fun e => hnb e.symm)
  have hc : ∀ i, w1.cell? ⟨b, i, none⟩ = w.cell? ⟨b, i, none⟩ := fun i => World.cell?_of_block (w := w) hb1
  have hf : ∀ i, w1.frozen? ⟨b, i, none⟩ = w.frozen? ⟨b, i, none⟩ := fun i => World.frozen?_of_block (w := w) hb1
  obtain ⟨Dt, ht⟩ := h.tk
  obtain ⟨Dk, hkn⟩ := h.kn
  have hvn : ∀ i, i < w.heap.size → v.ownBlock = some i → vW.ownBlock = some i := fun i hi e => by
    rcases hat with e2 | ⟨j, e2, hj⟩
    · rw [← e2]; exact e
    · rw [e] at e2; cases e2; omega
  have hltb := h.flt b (Or.inl rfl)
  have hltt := h.flt tb (Or.inr (Or.inl rfl))
  have hltk := h.flt kb (Or.inr (Or.inr (Or.inl rfl)))
  have hxg : x.g ≠ b ∧ x.g ≠ tb ∧ x.g ≠ kb ∧ vW.ownBlock ≠ some x.g := ⟨fun e => hxf (Or.inl e), fun e => hxf (Or.inr (Or.inl e)), fun e => hxf (Or.inr (Or.inr (Or.inl e))), fun e => hxf (Or.inr (Or.inr (Or.inr (Or.inl e))))⟩
  have hyl : ∀ y ∈ X, y.g < w.heap.size := fun y hy => h.flt y.g (Or.inr (Or.inr (Or.inr (Or.inr ⟨y, hy, rfl⟩))))
  refine ⟨?_, ?_, ?_, ?_, ?_, ?_, ⟨Dt, ht.of_block (hw tb h.nbt.symm hltt (fun e => (h.apW tb e).2.1 rfl))⟩, ⟨Dk, hkn.of_block (hw kb h.nbk.symm hltk (fun e => (h.apW kb e).2.2 rfl))⟩, own_set hv (fun e => hnb (hvn b hltb e)), ?_, fun y hy => ?_, ⟨fun d hdm => ?_, h.good.2⟩, ?_, h.lt, h.nk, h.nz, h.nbt, h.nbk, h.ntk, fun i e => ?_, fun y hy => ?_⟩
  · rw [cell_set_off (by decide), hc]; exact h.ck
  · rw [cell_set_off (by decide), hc]; exact h.cz
  · rw [cell_set_off (by decide), hc]; exact h.ct
  · rw [cell_set_off (by decide), hc]; exact h.cn
  · exact World.cell?_setCell_same _ _ _ ((hc 4).trans h.cw)
  · rw [frozen_set, hf]; exact h.cf
  · rw [List.map_append, h.xs]; rfl
  · rcases List.mem_append.1 hy with hy | hy
    · exact (h.sets y hy).of_block (hw y.g (h.apX y hy).1 (hyl y hy) (h.apX y hy).2.2.2)
    · rw [List.mem_singleton.1 hy]
      exact hx.of_block (hw x.g hxg.1 hxl hxg.2.2.2)
  · rcases List.mem_append.1 hdm with hdm | hdm
    · exact h.good.1 d hdm
    · rw [List.mem_singleton.1 hdm]; exact hd
  · rw [List.length_append]; exact ⟨hl, h.few.2⟩
  · rcases hat with e2 | ⟨j, e2, hj⟩
    · exact h.apW i (e2 ▸ e)
    · rw [e] at e2; cases e2
      exact ⟨by omega, by omega, by omega⟩
  · rcases List.mem_append.1 hy with hy | hy
    · exact ⟨(h.apX y hy).1, (h.apX y hy).2.1, (h.apX y hy).2.2.1, fun e => (h.apX y hy).2.2.2 (hvn y.g (hyl y hy) e)⟩
    · rw [List.mem_singleton.1 hy]
      exact ⟨hxg.1, hxg.2.1, hxg.2.2.1, fun e => hxg.2.2.2 (hvn x.g hxl e)⟩

set_option maxHeartbeats 4000000 in
theorem take_walk (b tb kb k z : Nat) (p : PS) (T : List Nat) (vW : Value) (X : List Wtr) (seed : Nat) (data : ByteArray) (w : World) (h : PQ w b tb kb k z p T vW X) (hf : fD k z seed data.size = 0) (hm : seed ∉ T) (h60 : T.length < 60) :
    Calls Tryz.prog 71 #[.pointer (some ⟨b, 0, none⟩), dropV seed data] w fun e w' => ∃ v q vW' X', e = .returned (.tuple #[v, .nilIface]) ∧ Peels (setL k) ⟨p.known, p.B, p.L ++ [(seed, data)]⟩ q ∧ Lsh w' v (came k p.known q.known) ∧ PQ w' b tb kb k z q (T ++ [seed]) vW' X' ∧ Kept (PF b tb kb vW X) w w' ∧ ∀ i, PF b tb kb vW' X' i → PF b tb kb vW X i ∨ w.heap.size ≤ i := by
  have hb0 : Below w.heap.size w (w.alloc (.cells #[.int .i64 (seed : Nat), .string data] 43)) := (Below.refl _ _).alloc (Nat.le_refl _) _
  have HB0 := hide hb0
  have H := hide h
  have hd := fD_ok hf
  have hsd : 1 ≤ seed ∧ seed ≤ 10000 := by have := hd.1; unfold OkD at this; omega
  have hdz : Hid (data.size = z) := by have := hd.2; unfold Hid; omega
  have hdi := (dropIn_new w seed data)
  have HDI := hide hdi
  obtain ⟨⟨cs, _⟩, cd, _⟩ := hdi
  simp only [Nat.zero_add] at cd
  have hck := cell_below hb0 h.ck
  have hcz := cell_below hb0 h.cz
  have DC := hide (fun W => dcheck_ok k z seed data W hd.1.1 hd.1.2.1 hd.1.2.2 hd.2)
  have hnk := h.nk
  have hnz := h.nz
  have hbl := h.flt b (Or.inl rfl)
  clear h hb0 hd
  unfold dropV at *
  go_enter Tryz.func71, Tryz.ntmps71
  go_wp2_with fail
  go_region_held3 (fun w' => w'.cell? ⟨b, 0, none⟩ = some (.int .i64 k) ∧ w'.cell? ⟨b, 1, none⟩ = some (.int .i64 z) ∧ w'.cell? ⟨w.heap.size, 0, none⟩ = some (.int .i64 seed) ∧ w'.cell? ⟨w.heap.size, 1, none⟩ = some (.string data)) (first | go_keep | exact ⟨cell_below hb1 hck, cell_below hb1 hcz, cell_below hb1 cs, cell_below hb1 cd⟩)
    (first | (go_at_call 36; refine (DC.out _).mono ?_; rintro e w1 ⟨rfl, hb1⟩))
  have hb1' : Below w.heap.size w w1 := below_two HB0.out ⟨hb1.os, hb1.tape, hb1.output, hb1.size, hb1.block⟩
  have HB1 := hide hb1'
  have H1 := hide (H.out.below hb1')
  have HD1 := hide (HDI.out.below (w' := w1) ⟨hb1.os, hb1.tape, hb1.output, hb1.size, hb1.block⟩)
  obtain ⟨⟨cs1, _⟩, cd1, _⟩ := HD1.out
  simp only [Nat.zero_add] at cd1
  have hct := H1.out.ct
  obtain ⟨Dt, ht⟩ := H1.out.tk
  have HT := hide ht
  have hl1 := (ht.of_block (w' := w1.drew) rfl).look hsd.2
  have hl2 := ((ht.alloc (.cells #[] 179)).of_block (w' := (w1.alloc (.cells #[] 179)).drew) rfl).look hsd.2
  have hba : Below w1.heap.size w1 (w1.alloc (.cells #[] 179)) := (Below.refl _ _).alloc (Nat.le_refl _) _
  have hct2 := cell_below hba hct
  have hcs2 := cell_below hba cs1
  rw [decide_eq_false hm] at hl1 hl2
  clear hb1 hb1' ht hck hcz cs cd DC HDI
  go_upto_region 4 with fail
  go_cut [8] (fun t wx => t = .bool false ∧ Below w1.heap.size w1 wx)
  case first =>
    go_region
    all_goals
      go_wp2_with fail
      go_meet
      exact ⟨rfl, hba.drew⟩
  case rest =>
  obtain ⟨rfl, hb2⟩ := hcut
  have HB2 := hide hb2
  have H2 := hide (H1.out.below hb2)
  have HD2 := hide (HD1.out.below hb2)
  obtain ⟨⟨cs2, _⟩, cd2, _⟩ := HD2.out
  simp only [Nat.zero_add] at cd2
  have hct2 := H2.out.ct
  have hck2 := H2.out.ck
  obtain ⟨Dt2, ht2⟩ := H2.out.tk
  have HT2 := hide ht2
  have hlen2 := ht2.2.1
  have hl60 : (Maps.size Dt2 : Int) < 60 := by omega
  have ST := hide (fun W => set_new k seed W hnk.1 hnk.2 hsd.1 hsd.2)
  clear hb2 ht2 hl1 hl2 hba hct hcs2 cs1 cd1 HD1 HT
  generalize wc = w2 at *
  go_upto_region 9 with (at_len; refine wpList_len_own _ rfl _ 114 rfl 3 179 Tryz.underlying114 _ tb T.length Dt2 rfl HT2.out.1 ?_)
  go_region_held3 (fun w' => w'.cell? ⟨b, 0, none⟩ = some (.int .i64 k) ∧ w'.cell? ⟨w.heap.size, 0, none⟩ = some (.int .i64 seed)) (first | go_keep | exact ⟨cell_below hb3 hck2, cell_below hb3 cs2⟩)
    (first | (go_at_call 34; refine (ST.out _).mono ?_; rintro e w3 ⟨v3, rfl, hl3, hb3, hn3⟩))
  have hb3' : Below w2.heap.size w2 w3 := ⟨hb3.os, hb3.tape, hb3.output, hb3.size, hb3.block⟩
  have hn3' : ∀ i, v3.ownBlock = some i → w2.heap.size ≤ i := hn3
  have H3 := hide (H2.out.below hb3')
  have HD3 := hide (HD2.out.below hb3')
  have HB3 := hide (below_two (below_two HB1.out HB2.out) hb3')
  have HL3 := hide hl3
  have HN3 : Hid (∀ i, v3.ownBlock = some i → ¬ PF b tb kb vW X i) := fun i e hp => by have := H2.out.flt i hp; have := hn3' i e; omega
  obtain ⟨g3, c3, hv3, hq3, hm3, hcell3⟩ := hl3
  subst hv3
  have HG3 : Hid (w.heap.size ≤ g3) := Nat.le_trans (below_two HB1.out HB2.out).size (hn3' g3 rfl)
  have hct3 := H3.out.ct
  obtain ⟨⟨cs3, _⟩, cd3, _⟩ := HD3.out
  simp only [Nat.zero_add] at cd3
  obtain ⟨Dt3, ht3⟩ := H3.out.tk
  obtain ⟨w4, hrun4, hown4, hgrow4⟩ := (ht3.of_block (w' := w3.drew) rfl).1.update Tryz.lawInt Tryz.underlying114 (by unfold maxLen; omega) (key16 hsd.2) unitElem_mk
  have H4 := hide (PQ.took (w := w3) (w1 := w4) H3.out ⟨hgrow4.os, hgrow4.tape, hgrow4.output, hgrow4.size, hgrow4.block⟩ ht3 hm h60 hown4)
  unfold maxLen at hm3
  clear hb3 hb3' hn3 hn3' hct2 hck2 cs2 cd2 HT2 HD2 ST hown4 ht3
  go_upto_region 12 with fail
  go_cut [61] (fun t wx => t = .int .i64 (seed : Nat) ∧ wx = w4)
  case first =>
    go_region
    all_goals
      go_wp2_with fail
      go_meet
      exact ⟨rfl, rfl⟩
  case rest =>
  obtain ⟨_, rfl⟩ := hcut
  have htw : tb < w.heap.size := H.out.flt tb (Or.inr (Or.inl rfl))
  have hg4 : w3.grownBy wc (some tb) := ⟨hgrow4.os, hgrow4.tape, hgrow4.output, hgrow4.size, hgrow4.block⟩
  have hl4 : Lst wc (.slice (some ⟨g3, 0, none⟩) (setL k seed).length c3) (setL k seed) := HL3.out.of_block (hg4.block g3 (cell_lt (hcell3 0 (setL_len hnk.1 hnk.2 hsd.1 hsd.2).1)) (fun e => HN3.out g3 rfl (Or.inr (Or.inl (by cases e; rfl)))))
  have hd4 : DropIn wc w.heap.size seed data := HD3.out.of_block (hg4.block _ HD3.out.lt (fun e => by cases e; omega))
  have hg3l : g3 < wc.heap.size := by
    obtain ⟨g', _, hv', _, _, hc'⟩ := hl4
    injection hv' with e; injection e with e; injection e with e
    rw [e]; exact cell_lt (hc' 0 (setL_len hnk.1 hnk.2 hsd.1 hsd.2).1)
  have HK4 : Hid (Kept (PF b tb kb vW X) w wc) := ((Kept.refl _ w).below HB3.out).grown hg4 fun i e => Or.inl (Or.inr (Or.inl (by cases e; rfl)))
  have HL4 := hide hl4
  obtain ⟨⟨cs4, _⟩, cd4, _⟩ := hd4
  simp only [Nat.zero_add] at cd4
  obtain ⟨aW, cW, hvW, hW1, hW2, _⟩ := own_wtrs H4.out.row
  have HVW := hide hvW
  have hcw4 := H4.out.cw
  rw [hvW] at hcw4
  have hcf4 := H4.out.cf
  have hX60 : X.length < 60 := by have := H3.out.len; have := H3.out.few; omega
  have hd8 : data.size ≤ 281474976710656 := by have := hdz.out; omega
  have CL := hide (fun W => strings_Clone data W hd8)
  have hbc : b < wc.heap.size := H4.out.flt b (Or.inl rfl)
  obtain ⟨i0, hi0, hz0, hz1, hz2⟩ := info_parts Tryz.infoWtr
  have Hi := hide hi0
  have Hz0 := hide hz0
  have Hz1 := hide hz1
  have Hz2 := hide hz2
  have HaB : Hid ((Value.slice aW X.length cW).ownBlock ≠ some b) := fun e => (H4.out.apW b (by rw [HVW.out]; exact e)).1 rfl
  unfold maxLen at hW2
  clear hcell3 hl4 hg4 hgrow4 hrun4 hct3 cs3 cd3 hi0 hz0 hz1 hz2 hvW HD3 HL3 htw
  go_upto_region 13 with fail
  go_cut [74] (fun t wx => ∃ gv cv, t = .slice (some ⟨gv, 0, none⟩) (X.length + 1) cv ∧ PQ wx b tb kb k z ⟨p.known, p.B, p.L ++ [(seed, data)]⟩ (T ++ [seed]) t (X ++ [⟨g3, (setL k seed).length, c3, (seed, data)⟩]) ∧ Kept (PF b tb kb vW X) w wx ∧ (t.ownBlock = vW.ownBlock ∨ ∃ i, t.ownBlock = some i ∧ w.heap.size ≤ i))
  case first =>
    go_region_law ((first
      | (refine step_append_lies _ (by rfl) _ _ _ (by rfl) 0 183 i0 _ 2 40 Tryz.underlying116 Hi.out Hz0.out Hz1.out Hz2.out rfl (by omega) (.slice aW X.length cW) X.length (wC X) (by rfl) HO5.out.row
          ⟨w5.heap.size, 0, none⟩ 1 1 [.slice (some ⟨g3, 0, none⟩) (setL k seed).length c3, .string data] (by rfl) (by rfl) (World.news_of_block (cs := #[.slice (some ⟨g3, 0, none⟩) (setL k seed).length c3, .string data]) (t := 183) (fr := (0, 0)) (heap_alloc_new w5 _)) (by simp [Value.oneCell'])
          (by omega) (by unfold maxLen; omega) (by omega) (by simp) (w5.heap.size + 1) (by simp) ?_; intro gg cap w6 hown6 hgrow6 hat hlt; have hfz : w6.frozen? ⟨b, 4, none⟩ = false := (hgrow6.frozen_far ⟨b, 4, none⟩ (by simp; omega) (Ne.symm HaB.out)).trans HO5.out.cf; have hcz : w6.cell? ⟨b, 4, none⟩ = some (.slice aW X.length cW) := (hgrow6.cell_far ⟨b, 4, none⟩ (by simp; omega) (Ne.symm HaB.out)).trans HO5.out.cw)
      | (rw [if_pos (by rfl)]; go_simp; go_at_call 39; refine (CL.out _).mono ?_; rintro e w5 ⟨rfl, hb5⟩; have hb5' : Below wc.heap.size wc w5 := ⟨hb5.os, hb5.tape, hb5.output, hb5.size, hb5.block⟩; have hb5s := hb5'.size; have HO5 := hide ((HVW.out ▸ H4.out.below hb5').below ((Below.refl _ w5).alloc (Nat.le_refl _) (.cells #[.slice (some ⟨g3, 0, none⟩) (setL k seed).length c3, .string data] 183))); have hcw5 := cell_below hb5' hcw4; have hcw6 := HO5.out.cw)))
    all_goals
      go_wp2_with fail
      go_meet
      have hbA : Below wc.heap.size wc (w5.alloc (.cells #[.slice (some ⟨g3, 0, none⟩) (setL k seed).length c3, .string data] 183)) := hb5'.alloc hb5s _
      refine ⟨gg, cap, rfl, ?_, ?_, ?_⟩
      · refine PQ.add (x := ⟨g3, (setL k seed).length, c3, (seed, data)⟩) HO5.out hgrow6 ?_ ?_ (HL4.out.below hbA) (Nat.lt_of_lt_of_le hg3l hbA.size) ?_ ⟨hsd.1, hsd.2, hdz.out⟩ ?_
        · rw [List.length_append, wC_snoc]; exact hown6
        · rcases hat with e | e
          · exact Or.inl e.symm
          · exact Or.inr ⟨gg, rfl, by rw [e]; simp⟩
        · rw [← HVW.out]; exact HN3.out g3 rfl
        · rw [List.length_append]
          have := H3.out.few
          simp; omega
      · refine ((HK4.out.below hbA).grown hgrow6 fun i e => Or.inl (Or.inr (Or.inr (Or.inr (Or.inl (by rw [HVW.out]; exact e)))))).setCell ⟨b, 4, none⟩ _ (Or.inl (Or.inl rfl))
      · rcases hat with e | e
        · exact Or.inl (by rw [HVW.out]; exact e.symm)
        · exact Or.inr ⟨gg, rfl, by rw [e]; have := HK4.out.size; omega⟩
  case rest =>
  obtain ⟨gv, cv, hveq, hQ5, hK5, hat5⟩ := hcut
  have PL := hide (peel_ok b tb kb k z _ _ _ _ _ hQ5)
  have HQ5 := hide hQ5
  have HK5 := hide hK5
  have HA5 := hide hat5
  clear hveq hQ5 hK5 hat5
  go_wp2_with fail
  refine (PL.out).mono ?_
  rintro e w7 ⟨v7, rfl, q, X7, vW7, hp7, hl7, hq7, ho7, hx7, hk7, hf7⟩
  have HP7 := hide hp7
  have HL7 := hide hl7
  have HQ7 := hide hq7
  have HO7 := hide ho7
  have HX7 := hide hx7
  have HK7 := hide hk7
  clear hp7 hl7 hq7 ho7 hx7 hk7 hf7
  go_wp2
  go_ret2
  refine ⟨_, q, vW7, X7, rfl, HP7.out, HL7.out, HQ7.out, ?_, fun i hi => ?_⟩
  · refine ⟨HK7.out.os.trans HK5.out.os, HK7.out.tape.trans HK5.out.tape, HK7.out.output.trans HK5.out.output, Nat.le_trans HK5.out.size HK7.out.size, fun i hi hn => (HK7.out.block i (Nat.lt_of_lt_of_le hi HK5.out.size) fun e => ?_).trans (HK5.out.block i hi hn)⟩
    rcases e with e | e | e
    · exact hn (Or.inl e)
    · exact hn (Or.inr (Or.inr (Or.inl e)))
    · rcases HA5.out with e2 | ⟨j, e2, hj⟩
      · exact hn (Or.inr (Or.inr (Or.inr (Or.inl (e2 ▸ e)))))
      · rw [e] at e2; cases e2; omega
  · rcases hi with e | e | e | e | ⟨y, hy, e⟩
    · exact Or.inl (Or.inl e)
    · exact Or.inl (Or.inr (Or.inl e))
    · exact Or.inl (Or.inr (Or.inr (Or.inl e)))
    · rw [HO7.out] at e
      rcases HA5.out with e2 | ⟨j, e2, hj⟩
      · exact Or.inl (Or.inr (Or.inr (Or.inr (Or.inl (e2 ▸ e)))))
      · rw [e] at e2; cases e2; exact Or.inr hj
    · rcases List.mem_append.1 (HX7.out y hy) with h9 | h9
      · exact Or.inl (Or.inr (Or.inr (Or.inr (Or.inr ⟨y, h9, e⟩))))
      · rw [List.mem_singleton.1 h9] at e
        exact Or.inr (by rw [e]; exact HG3.out)
end Go.Proofs.YtjhflcgphejddaaGreatDoor
