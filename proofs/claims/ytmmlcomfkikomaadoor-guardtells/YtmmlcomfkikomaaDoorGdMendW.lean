/-
  Our own contract of guard.mended over this seat's translation, walked. Lemmas for the laws above; no statement is proved here.
-/
import Derived.Test.YtmmlcomfkikomaaDoorGdMend
namespace Go.Proofs.YtmmlcomfkikomaaDoor
open Go.RowKit
set_option linter.unusedVariables false
set_option maxRecDepth 100000

theorem ownsRow_posM {W : World} {base e size n : Nat} {v : Value} {xs : List Value} (h : W.ownsRow base e size v n xs) (h0 : 0 < n) : ∃ g cap, v = .slice (some ⟨g, 0, none⟩) n cap := by
  rcases h.2 with ⟨_, h1⟩ | ⟨g, cap, _, rfl, _⟩
  · omega
  · exact ⟨g, cap, rfl⟩

theorem lt_of_cell {w : World} {a : Addr} {v : Value} (h : w.cell? a = some v) : a.block < w.heap.size := by
  obtain ⟨o, ho, _⟩ := cells_of_cell h
  exact (Array.getElem?_eq_some_iff.1 ho).1
theorem bytes_of_listG {a b : ByteArray} (h : a.data.toList = b.data.toList) : a = b := by
  cases a; cases b
  congr 1
  exact Array.toList_inj.1 h
/-- A group as it must be. -/
structure GrpOk (len : Nat) (of : List Nat) (bh : Nat) : Prop where
  pos : 0 < of.length
  most : of.length < 16
  lt : ∀ r ∈ of ++ [bh], r < len
  nodup : (of ++ [bh]).Nodup
theorem GrpOk.rest {len : Nat} {of : List Nat} {bh : Nat} (h : GrpOk len of bh) (lk : Nat → Bool) : 0 < (mRest lk of bh).length ∧ (∀ r ∈ mRest lk of bh, r < len) ∧ (mRest lk of bh).Nodup := by
  refine ⟨?_, fun r hr => h.lt r (List.mem_filter.1 hr).1, h.nodup.filter _⟩
  obtain ⟨x, l, hx⟩ : ∃ x l, of = x :: l := by
    cases e : of with
    | nil => have := h.pos; rw [e] at this; simp at this
    | cons x l => exact ⟨x, l, rfl⟩
  have hne : x ≠ bh := by
    have := h.nodup
    rw [hx] at this
    simp at this
    exact this.1.2
  unfold mRest
  generalize mPl lk of bh = p
  rw [hx]
  by_cases e : x = p
  · have : ¬ bh = p := fun e2 => hne (e.trans e2.symm)
    simp [this]
  · apply List.length_pos_of_mem (a := x)
    simp [e]

set_option maxHeartbeats 4000000 in
theorem mended_ok (b o len cap lb lo lcap : Nat) (g : Nat → ByteArray) (lk : Nat → Bool) (v : Value) (of : List Nat) (bh : Nat) (w : World) (hB : Blks w b o len g)
    (hlk : ∀ i, i < len → w.cell? ⟨lb, lo + i, none⟩ = some (.bool (lk i))) (hof : Lst w v of) (hg : GrpOk len of bh) :
    Calls Tryd.prog 23 #[.slice (some ⟨b, o, none⟩) len cap, .slice (some ⟨lb, lo, none⟩) len lcap, v, .int .i64 (bh : Nat)] w fun e w' => e = .returned (mRes g lk of bh) ∧ Below w.heap.size w w' := by
  obtain ⟨i0, hi, hz0, hz1, hz2⟩ := info_parts Tryd.infoInt
  have HI := hide hi
  have HZ0 := hide hz0
  have HZ1 := hide hz1
  have HZ2 := hide hz2
  clear hi hz0 hz1 hz2
  have hlen := hB.most
  have hp := hg.pos
  have hm := hg.most
  have hbh : bh < len := hg.lt bh (by simp)
  have HB := hide hB
  have HL := hide hlk
  have HG := hide hg
  have HOF := hide hof
  clear hB hlk hg
  -- the box of lacks
  obtain ⟨W1, hW1⟩ : ∃ W1, W1 = w.alloc (.cells #[.slice (some ⟨lb, lo, none⟩) len lcap] 23) := ⟨_, rfl⟩
  have hb1 : Below w.heap.size w W1 := by rw [hW1]; exact (Below.refl _ w).alloc (Nat.le_refl _) _
  have hx1 : W1.cell? ⟨w.heap.size, 0, none⟩ = some (.slice (some ⟨lb, lo, none⟩) len lcap) := by rw [hW1]; exact (Boxed.new w _ _).cell
  have hs1 : w.heap.size < W1.heap.size := by rw [hW1]; simp
  have HW1 := hide hW1
  have KC := hide (clone_ok (hof.below hb1) hp (by omega))
  have HB1 := hide hb1
  have HX1 := hide hx1
  have hv := hof
  obtain ⟨gv, cv, rfl, _⟩ := hv
  clear hof hb1 hx1 hW1
  go_enter Tryd.func23, Tryd.ntmps23
  go_wp2_with fail
  rw [← HW1.out]
  refine (KC.out).mono ?_
  rintro e w2 ⟨v1, rfl, hr1, hb2⟩
  obtain ⟨g1, c1, rfl⟩ := ownsRow_posM hr1 hp
  have HR1 := hide hr1
  have HB2 := hide hb2
  have hs2 : W1.heap.size ≤ w2.heap.size := hb2.size
  clear hr1 hb2 KC
  go_wp2_with (at_builtin; refine wpList_append_own _ rfl _ _ 47 rfl W1.heap.size 3 i0 (.int .i64 0) 1 8 Tryd.underlying47 HI.out HZ0.out HZ1.out HZ2.out rfl (by decide) _ _ _ rfl (HR1.out.alloc _) ⟨w2.heap.size, 0, none⟩ 1 1 [.int .i64 (bh : Nat)] rfl rfl (cell_one_new _ _ _) (by simp [Value.oneCell']) (by unfold maxLen; omega) (by omega) (by simp; omega) ?_; intro v' w3 hown' hgrow _; obtain ⟨ga, ca, rfl⟩ := ownsRow_posM hown' (by omega); have HR3 := hide hown'; have HG3 := hide hgrow; clear hown' hgrow)
  have hb3 : Below W1.heap.size W1 w3 := (HB2.out.alloc hs2 _).grown HG3.out (by simp; omega) (fun k hk => (HR1.out.lt k hk).1)
  obtain ⟨l, hl⟩ : ∃ l, l = of ++ [bh] := ⟨_, rfl⟩
  have hll : l.length = of.length + 1 := by rw [hl]; simp
  have hra : w3.ownsRow W1.heap.size 3 1 (.slice (some ⟨ga, 0, none⟩) l.length ca) l.length (toV l) := by
    have h9 := HR3.out
    rw [hll, hl]
    simpa [toV] using h9
  have HRA := hide hra
  have HLst : Hid (Lst w3 (.slice (some ⟨ga, 0, none⟩) (of.length + 1) ca) l) := by
    have h9 := own_lst hra (by omega)
    rwa [hll] at h9
  have KC2 := hide (clone_ok HLst.out (by omega) (by omega))
  have hga : W1.heap.size ≤ ga ∧ ga < w3.heap.size := hra.lt ga rfl
  have HLL := hide hll
  have HLE := hide hl
  have hl16 : l.length ≤ 16 := by omega
  have hl2 : 1 < l.length := by omega
  have HB3 := hide hb3
  have hs3 : W1.heap.size ≤ w3.heap.size := hb3.size
  clear hll hl hra hb3
  refine (KC2.out).mono ?_
  rintro e w4 ⟨v2, rfl, hr2, hb4⟩
  obtain ⟨g2, c2, rfl⟩ := ownsRow_posM hr2 (by omega)
  have hg2 : w3.heap.size ≤ g2 ∧ g2 < w4.heap.size := hr2.lt g2 rfl
  have hb14 : Below W1.heap.size W1 w4 := HB3.out.trans (hb4.mono hs3)
  have hLT : ∀ r ∈ l, r < len := fun r hr => HG.out.lt r (by rw [← HLE.out]; exact hr)
  have KD1 := hide (delf1_ok w3.heap.size w.heap.size g2 c2 (fun r => !lk r) hr2 (by omega) hl16 hb4.size (fun W r hk hr => by
    refine mended1_ok r w.heap.size lb lo len lcap (lk r) W (hLT r hr) hlen ?_ ?_
    · refine hk.cellAt ((hb14.cell (p := ⟨w.heap.size, 0, none⟩) hs1).trans HX1.out) (fun e => ?_)
      simp at e; omega
    · have h8 := HL.out r (hLT r hr)
      have h9 := lt_of_cell h8
      simp at h9
      refine hk.cellAt ((hb14.cell (p := ⟨lb, lo + r, none⟩) (by simp; omega)).trans (cell_below HB1.out h8)) (fun e => ?_)
      simp at e; omega))
  have HB4 := hide hb4
  have HR2 := hide hr2
  have hs4 : w3.heap.size ≤ w4.heap.size := hb4.size
  have HLT := hide hLT
  clear hb4 hr2 hb14 KC2 hLT
  go_wp2_with fail
  refine (KD1.out).mono ?_
  rintro e w5 ⟨v3, rfl, hl3, hk5⟩
  have hb35 : Below w3.heap.size w3 w5 := HB4.out.trans (hk5.toBelow hg2.1 hs4)
  have HB5 := hide (HB3.out.trans (hb35.mono hs3) : Below W1.heap.size W1 w5)
  have HRA5 := hide (own_under' HRA.out hb35)
  have hs5 : w3.heap.size ≤ w5.heap.size := hb35.size
  have eg : (l.filter fun r => !(!lk r)) = mGone lk of bh := by
    unfold mGone
    rw [HLE.out]
    congr 1
    funext r
    simp
  rw [eg] at hl3
  have hgl : (mGone lk of bh).length ≤ 16 := by rw [← eg]; exact Nat.le_trans (List.length_filter_le _ _) hl16
  clear eg hb35 hk5 KD1
  rcases hgo : mGone lk of bh with _ | ⟨x, _ | ⟨y, r⟩⟩
  · rw [hgo] at hl3
    have hpl : mPl lk of bh = bh := by unfold mPl; rw [hgo]; rfl
    have HRL : Hid ((l.filter fun r => !(r == bh)) = mRest lk of bh) := by unfold Hid mRest; rw [HLE.out, hpl]
    have HGO := hide hgo
    have HPL := hide hpl
    obtain ⟨a3, c3, rfl, h31, h32, h33⟩ := hl3
    obtain ⟨W6, hW6⟩ : ∃ W6, W6 = w5.alloc (.cells #[.int .i64 (bh : Nat)] 3) := ⟨_, rfl⟩
    have hb56 : Below w5.heap.size w5 W6 := by rw [hW6]; exact (Below.refl _ w5).alloc (Nat.le_refl _) _
    have hx6 : W6.cell? ⟨w5.heap.size, 0, none⟩ = some (.int .i64 (bh : Nat)) := by rw [hW6]; exact (Boxed.new w5 _ _).cell
    clear hgo hpl h33 hgl h31
    unfold maxLen at h32
    simp only [List.length_nil]
    have hra6 := own_under' HRA5.out hb56
    have hs6 := hb56.size
    have KD2 := hide (delf2_ok W1.heap.size w5.heap.size ga ca (fun r => r == bh) hra6 (by omega) hl16 (by omega) (fun W r hk hr => mended2_ok r bh w5.heap.size W (hk.cellAt hx6 (fun e => by simp at e; omega))))
    rw [HLL.out] at KD2
    have HB6 := hide (HB5.out.trans (hb56.mono (by omega)) : Below W1.heap.size W1 W6)
    have HS6 : Hid (w5.heap.size ≤ W6.heap.size) := hb56.size
    have HW6 := hide hW6
    have HX6 := hide hx6
    clear hra6 hW6 hb56 hx6
    go_wp2_with fail
    try rw [← HW6.out]
    refine (KD2.out).mono ?_
    rintro e w7 ⟨v4, rfl, hl4, hk7⟩
    have hb7 : Below W1.heap.size W1 w7 := HB6.out.trans (hk7.toBelow hga.1 (by have := HS6.out; omega))
    have hbw7 : Below w.heap.size w w7 := HB1.out.trans (hb7.mono (by omega))
    rw [HRL.out] at hl4
    have hrest := HG.out.rest lk
    obtain ⟨a4, c4, rfl, h41, h42, h43⟩ := hl4
    have KS := hide (suml_ok b o len cap g _ (mRest lk of bh) w7 (HB.out.below hbw7) (h43 hrest.1) hrest.1 hrest.2.1 hrest.2.2)
    have HBW7 := hide hbw7
    have HX7 := hide (hk7.cellAt HX6.out (fun e => by simp at e; omega))
    clear hk7 hb7 hbw7 hrest h43
    unfold maxLen at h42
    go_wp2_with fail
    refine (KS.out).mono ?_
    rintro e w8 ⟨rfl, hb8⟩
    have HBW8 := hide (below_two HBW7.out hb8)
    have hc8 := cell_below HBW8.out (HB.out.cells bh hbh)
    have hp8 : w8.cell? ⟨w5.heap.size, 0, none⟩ = some (.int .i64 (bh : Nat)) := cell_below hb8 HX7.out
    clear hb8
    by_cases hD : sumL g (mRest lk of bh) = g bh
    · have q1 : ((sumL g (mRest lk of bh)).toList == (g bh).toList) = true := by rw [hD]; simp
      have HD := hide hD
      clear hD
      go_wp2
      go_ret3
      refine ⟨?_, HBW8.out⟩
      have hf : mFlt g lk of bh = 0 := by unfold mFlt; rw [HGO.out]; simp [mDat, HD.out]
      unfold mRes
      rw [if_pos hf, HPL.out]
      rfl
    · have q1 : ((sumL g (mRest lk of bh)).toList == (g bh).toList) = false := by
        rw [beq_eq_false_iff_ne, ByteArray.toList_eq, ByteArray.toList_eq]
        exact fun e => hD (bytes_of_listG e)
      have HD := hide hD
      clear hD
      go_wp2
      go_ret3
      refine ⟨?_, HBW8.out⟩
      have hf : mFlt g lk of bh = 7 := by unfold mFlt; rw [HGO.out]; simp [mDat, HD.out]
      unfold mRes
      rw [if_neg (by rw [hf]; decide), hf]
      rfl
  · rw [hgo] at hl3
    have hpl : mPl lk of bh = x := by unfold mPl; rw [hgo]; rfl
    have HRL : Hid ((l.filter fun r => !(r == x)) = mRest lk of bh) := by unfold Hid mRest; rw [HLE.out, hpl]
    have HGO := hide hgo
    have HPL := hide hpl
    have hxl : x < len := HLT.out x (by
      have h9 : x ∈ mGone lk of bh := by rw [hgo]; simp
      rw [HLE.out]; exact (List.mem_filter.1 h9).1)
    obtain ⟨a3, c3, rfl, h31, h32, h33⟩ := hl3
    obtain ⟨g3, c3', e3, _, _, h34⟩ := h33 (by simp)
    cases e3
    have hc3 := h34 0 (by simp)
    simp only [Nat.zero_add, List.getD_cons_zero] at hc3
    obtain ⟨W6, hW6⟩ : ∃ W6, W6 = w5.alloc (.cells #[.int .i64 (x : Nat)] 3) := ⟨_, rfl⟩
    have hb56 : Below w5.heap.size w5 W6 := by rw [hW6]; exact (Below.refl _ w5).alloc (Nat.le_refl _) _
    have hx6 : W6.cell? ⟨w5.heap.size, 0, none⟩ = some (.int .i64 (x : Nat)) := by rw [hW6]; exact (Boxed.new w5 _ _).cell
    have hc3y : (w5.alloc (.cells #[.int .i64 (bh : Nat)] 3)).cell? ⟨g3, 0, none⟩ = some (.int .i64 (x : Nat)) := cell_below ((Below.refl _ w5).alloc (Nat.le_refl _) _) hc3
    clear hgo hpl h33 hgl h31 h34 hc3
    unfold maxLen at h32
    simp only [List.length_cons, List.length_nil, Nat.zero_add]
    have hra6 := own_under' HRA5.out hb56
    have hs6 := hb56.size
    have KD2 := hide (delf2_ok W1.heap.size w5.heap.size ga ca (fun r => r == x) hra6 (by omega) hl16 (by omega) (fun W r hk hr => mended2_ok r x w5.heap.size W (hk.cellAt hx6 (fun e => by simp at e; omega))))
    rw [HLL.out] at KD2
    have HB6 := hide (HB5.out.trans (hb56.mono (by omega)) : Below W1.heap.size W1 W6)
    have HS6 : Hid (w5.heap.size ≤ W6.heap.size) := hb56.size
    have HW6 := hide hW6
    have HX6 := hide hx6
    clear hra6 hW6 hb56 hx6
    go_wp2_with fail
    try rw [← HW6.out]
    refine (KD2.out).mono ?_
    rintro e w7 ⟨v4, rfl, hl4, hk7⟩
    have hb7 : Below W1.heap.size W1 w7 := HB6.out.trans (hk7.toBelow hga.1 (by have := HS6.out; omega))
    have hbw7 : Below w.heap.size w w7 := HB1.out.trans (hb7.mono (by omega))
    rw [HRL.out] at hl4
    have hrest := HG.out.rest lk
    obtain ⟨a4, c4, rfl, h41, h42, h43⟩ := hl4
    have KS := hide (suml_ok b o len cap g _ (mRest lk of bh) w7 (HB.out.below hbw7) (h43 hrest.1) hrest.1 hrest.2.1 hrest.2.2)
    have HBW7 := hide hbw7
    have HX7 := hide (hk7.cellAt HX6.out (fun e => by simp at e; omega))
    clear hk7 hb7 hbw7 hrest h43
    unfold maxLen at h42
    go_wp2_with fail
    refine (KS.out).mono ?_
    rintro e w8 ⟨rfl, hb8⟩
    have HBW8 := hide (below_two HBW7.out hb8)
    have hc8 := cell_below HBW8.out (HB.out.cells bh hbh)
    have hp8 : w8.cell? ⟨w5.heap.size, 0, none⟩ = some (.int .i64 (x : Nat)) := cell_below hb8 HX7.out
    clear hb8
    go_wp2
    go_ret3
    refine ⟨?_, HBW8.out⟩
    have hf : mFlt g lk of bh = 0 := by unfold mFlt; rw [HGO.out]; simp
    unfold mRes
    rw [if_pos hf, HPL.out]
    rfl
  · have hf : mFlt g lk of bh = 8 := by unfold mFlt; rw [hgo]; simp
    obtain ⟨k, hk⟩ : ∃ k, k = (mGone lk of bh).length := ⟨_, rfl⟩
    have hk1 : 1 < k := by rw [hk, hgo]; simp
    obtain ⟨a3, c3, rfl, h31, h32, h33⟩ := hl3
    rw [← hk] at h31 hgl ⊢
    have HF := hide hf
    clear hgo hf hk h33
    unfold maxLen at h32
    go_wp2
    go_ret3
    refine ⟨?_, HB1.out.trans (HB5.out.mono (by omega))⟩
    unfold mRes
    rw [if_neg (by rw [HF.out]; decide), HF.out]
    rfl
end Go.Proofs.YtmmlcomfkikomaaDoor
