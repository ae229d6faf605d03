/-
  Our own contracts of dropref1's Air over this seat's translation. Lemmas for the laws above; no statement is proved here.
-/
import Derived.Test.YtjoklnalkehegaaDoorAirN
import Derived.Maps.AppendAt
import Derived.Deep.RegionLaw
import Derived.Deep.DrawnRows
import Derived.Deep.DeepCutAuto
namespace Go.Proofs.YtjoklnalkehegaaDoor
open Go.RowKit Go.Maps
set_option linter.unusedVariables false
set_option maxRecDepth 100000

theorem rsend_bad {w : World} {base b : Nat} {v : Value} {X : List Drp} (s : Int) (data : ByteArray) (h : AQ w base b v X) (hd : data.size ≤ maxLen) (hf : aF X.length s data.size ≠ 0) :
    Calls Tryd.prog 12 #[.pointer (some ⟨b, 0, none⟩), dropV s data] w fun e w' => e = .returned (.int .i64 (aF X.length s data.size : Nat)) ∧ Below w.heap.size w w' := by
  obtain ⟨a, cap, rfl, q1, q2, _⟩ := own_drops h.row
  have hb0 : Below w.heap.size w (w.alloc (.cells #[.int .i64 s, .string data] 23)) := (Below.refl _ _).alloc (Nat.le_refl _) _
  have hc := cell_below hb0 h.cell
  have HB := hide hb0
  have hn := (dropIn_new w s data)
  obtain ⟨⟨cs, _⟩, cd, _⟩ := hn
  simp only [Nat.zero_add] at cd
  clear h hb0
  unfold maxLen at hd
  unfold dropV at *
  by_cases h1 : s < 1
  · have e : aF X.length s data.size = 1 := by unfold aF; rw [if_pos (Or.inl h1)]
    rw [e]
    clear hf e
    go_enter Tryd.func12, Tryd.ntmps12
    go_wp2
    go_ret
    exact ⟨rfl, HB.out⟩
  · by_cases h2 : 10000 < s
    · have e : aF X.length s data.size = 1 := by unfold aF; rw [if_pos (Or.inr h2)]
      rw [e]
      clear hf e
      go_enter Tryd.func12, Tryd.ntmps12
      go_wp2
      go_ret
      exact ⟨rfl, HB.out⟩
    · by_cases h3 : data.size < 1
      · have e : aF X.length s data.size = 3 := by unfold aF; rw [if_neg (by omega), if_pos (Or.inl h3)]
        rw [e]
        clear hf e
        go_enter Tryd.func12, Tryd.ntmps12
        go_wp2
        go_ret
        exact ⟨rfl, HB.out⟩
      · by_cases h4 : 8 < data.size
        · have e : aF X.length s data.size = 3 := by unfold aF; rw [if_neg (by omega), if_pos (Or.inr h4)]
          rw [e]
          clear hf e
          go_enter Tryd.func12, Tryd.ntmps12
          go_wp2
          go_ret
          exact ⟨rfl, HB.out⟩
        · have h5 : 60 ≤ X.length := by
            unfold aF at hf
            rw [if_neg (by omega), if_neg (by omega)] at hf
            by_cases c : 60 ≤ X.length
            · exact c
            · rw [if_neg c] at hf; exact absurd rfl hf
          have e : aF X.length s data.size = 4 := by unfold aF; rw [if_neg (by omega), if_neg (by omega), if_pos h5]
          rw [e]
          clear hf e
          go_enter Tryd.func12, Tryd.ntmps12
          go_wp2
          go_ret
          exact ⟨rfl, HB.out⟩

set_option maxHeartbeats 4000000 in
theorem rsend_ok {w : World} {base b : Nat} {v : Value} {X : List Drp} (n : Nat) (data : ByteArray) (h : AQ w base b v X) (hf : aF X.length (n : Nat) data.size = 0) :
    Calls Tryd.prog 12 #[.pointer (some ⟨b, 0, none⟩), dropV (n : Nat) data] w fun e w' => e = .returned (.int .i64 0) ∧ Moved w base b v (X ++ [(n, data)]) w' := by
  obtain ⟨f1, f2, f3, f4, f5⟩ := aF_ok hf
  have hbl := h.lt b (Or.inl rfl)
  have hbase : base ≤ w.heap.size := by omega
  have hb0 : Below w.heap.size w (w.alloc (.cells #[.int .i64 (n : Nat), .string data] 23)) := (Below.refl _ _).alloc (Nat.le_refl _) _
  have H0 := hide (fun w' => Moved.behind (base := base) (w' := w') (X := X ++ [(n, data)]) hb0 hbl.2 (fun i e => (h.lt i (Or.inr e)).2))
  have H1 := hide (h.below hb0)
  have D1 := hide (dropIn_new w (n : Nat) data)
  have HBs : Hid (base ≤ (w.alloc (.cells #[.int .i64 (n : Nat), .string data] 23)).heap.size) := by unfold Hid; have := hb0.size; omega
  obtain ⟨aW, cW, hvW, hW1, hW2, _⟩ := own_drops h.row
  subst hvW
  have hc1 := H1.out.cell
  obtain ⟨⟨cs, _⟩, cd, _⟩ := D1.out
  simp only [Nat.zero_add] at cd
  clear h hb0 hf hbl
  unfold dropV at *
  have g1 : ¬ (n : Int) < 1 := by omega
  have g2 : ¬ 10000 < (n : Int) := by omega
  have g3 : ¬ data.size < 1 := by omega
  have g4 : ¬ 8 < data.size := by omega
  go_enter Tryd.func12, Tryd.ntmps12
  go_upto_region 7 with fail
  generalize hgs : w.heap.size = sb at *
  clear hgs
  generalize w.alloc (.cells #[.int .i64 (n : Nat), .string data] 23) = w1 at *
  obtain ⟨i0, hi0, hz0, hz1, hz2⟩ := info_parts Tryd.infoDrop
  have Hi := hide hi0
  have Hz0 := hide hz0
  have Hz1 := hide hz1
  have Hz2 := hide hz2
  have HaB : Hid ((Value.slice aW X.length cW).ownBlock ≠ some b) := H1.out.ap
  have hbl1 : b < w1.heap.size := (H1.out.lt b (Or.inl rfl)).2
  have HO5 := hide (H1.out.below (((Below.refl _ w1).alloc (Nat.le_refl _) (.cells #[.int .i64 (n : Nat), .string data] 23)).drew))
  have hcw6 := HO5.out.cell
  unfold maxLen at hW2
  clear hi0 hz0 hz1 hz2
  go_cut [36] (fun t wx => Moved w1 base b (.slice aW X.length cW) (X ++ [(n, data)]) wx)
  case first =>
    go_region_law
      ((refine step_append_lies _ (by rfl) _ _ _ (by rfl) base 23 i0 _ 2 24 Tryd.underlying37 Hi.out Hz0.out Hz1.out Hz2.out rfl (by omega) (.slice aW X.length cW) X.length (dC X) (by rfl) HO5.out.row
          ⟨w1.heap.size, 0, none⟩ 1 1 [.int .i64 (n : Nat), .string data] (by rfl) (by rfl) (World.news_of_block (cs := #[.int .i64 (n : Nat), .string data]) (t := 23) (fr := (0, 0)) (heap_alloc_new w1 _)) (by simp [Value.oneCell'])
          (by omega) (by unfold maxLen; omega) (by omega) (by have h9 := HBs.out; simp; omega) (w1.heap.size + 1) (by simp) ?_; intro gg cap w6 hown6 hgrow6 hat hlt; have hfz : w6.frozen? ⟨b, 0, none⟩ = false := (hgrow6.frozen_far ⟨b, 0, none⟩ (by simp; omega) (Ne.symm HaB.out)).trans HO5.out.frz; have hcz : w6.cell? ⟨b, 0, none⟩ = some (.slice aW X.length cW) := (hgrow6.cell_far ⟨b, 0, none⟩ (by simp; omega) (Ne.symm HaB.out)).trans HO5.out.cell))
    all_goals
      go_wp2_with fail
      go_meet
      have hbA : Below w1.heap.size w1 (w1.alloc (.cells #[.int .i64 (n : Nat), .string data] 23)).drew := ((Below.refl _ w1).alloc (Nat.le_refl _) _).drew
      refine Moved.behind hbA hbl1 (fun i e => (H1.out.lt i (Or.inr e)).2) (HO5.out.store ((Kept.refl _ _).grown hgrow6 fun i e => Or.inl e) (by rw [List.length_append, dC_snoc]; exact hown6) (fun i e => ?_) (by rw [List.length_append]; simp; omega) (fun d hdm => ?_))
      · rcases hat with e9 | e9
        · exact Or.inl (e9.trans e)
        · cases e; exact Or.inr (by rw [e9]; simp)
      · rcases List.mem_append.1 hdm with hdm | hdm
        · exact H1.out.good d hdm
        · rw [List.mem_singleton.1 hdm]; exact ⟨by omega, by omega, f3, f4⟩
  case rest =>
  have HM := hide hcut
  clear hcut
  go_wp2
  go_ret
  exact ⟨rfl, H0.out _ HM.out⟩
/-- Send, whatever the drop. -/
theorem rsend_any {w : World} {base b : Nat} {v : Value} {X : List Drp} (s : Int) (data : ByteArray) (h : AQ w base b v X) (hd : data.size ≤ maxLen) :
    Calls Tryd.prog 12 #[.pointer (some ⟨b, 0, none⟩), dropV s data] w fun e w' => e = .returned (.int .i64 (aF X.length s data.size : Nat)) ∧ Moved w base b v (aPut X s data) w' := by
  unfold aPut
  by_cases hf : aF X.length s data.size = 0
  · obtain ⟨f1, _⟩ := aF_ok hf
    obtain ⟨n, rfl⟩ : ∃ n : Nat, s = n := ⟨s.toNat, by omega⟩
    rw [if_pos hf]
    exact (rsend_ok n data h hf).mono fun e w' ⟨he, hm⟩ => ⟨by rw [he, hf]; rfl, hm⟩
  · rw [if_neg hf]
    exact (rsend_bad s data h hd hf).mono fun e w' ⟨he, hb⟩ => ⟨he, Moved.same h hb⟩

set_option maxHeartbeats 4000000 in
theorem rout_ok {w : World} {base b : Nat} {v : Value} {X : List Drp} {i : Nat} (h : AQ w base b v X) (hi : i < X.length) :
    Calls Tryd.prog 13 #[.pointer (some ⟨b, 0, none⟩), .int .i64 i] w fun e w' => e = .returned (.tuple #[]) ∧ Moved w base b v (X.eraseIdx i) w' := by
  have H := hide h
  have hbl := h.lt b (Or.inl rfl)
  have hf := h.few
  have hlen := dC_len X
  have hone := dC_one X
  obtain ⟨a, cap, rfl, h1, h2, h3, _⟩ := own_drops h.row
  obtain ⟨g, rfl⟩ := h3 (by omega)
  have hgl : g < w.heap.size := (h.lt g (Or.inr rfl)).2
  have hrow := hide h.row
  have hc := h.cell
  obtain ⟨A, hA, hnews⟩ : ∃ A : Addr, (if cap = i + 1 then some (⟨g, 0, none⟩ : Addr) else some ⟨g, (i + 1) * 2, none⟩) = some A ∧ Hid (∀ w1 : World, Below w.heap.size w w1 → ∀ j u, ((dC X).drop ((i + 1) * 2))[j]? = some u → w1.cell? (A.add j) = some u) := by
    by_cases c : cap = i + 1
    · refine ⟨⟨g, 0, none⟩, by simp [c], fun w1 hb j u hu => ?_⟩
      rw [List.getElem?_drop, List.getElem?_eq_none (by omega)] at hu
      cases hu
    · refine ⟨⟨g, (i + 1) * 2, none⟩, by simp [c], fun w1 hb j u hu => ?_⟩
      rw [List.getElem?_drop] at hu
      have hj := (List.getElem?_eq_some_iff.1 hu).1
      rw [Addr.add_lit, (own_under' hrow.out hb).cellAt _ (by omega)]
      exact hu
  have hnews0 : Hid (∀ j u, ((dC X).take (i * 2))[j]? = some u → w.cell? ((⟨g, 0, none⟩ : Addr).add j) = some u) := fun j u hu => by
    have hj := (List.getElem?_eq_some_iff.1 hu).1
    rw [List.length_take] at hj
    rw [Addr.add_lit, Nat.zero_add, hrow.out.cellAt _ (by omega), ← hu, List.getElem?_take, if_pos (by omega)]
  have s0 : Hid (((dC X).take (i * 2)).length = i * 2) := by unfold Hid; rw [List.length_take, hlen]; omega
  have s1 : Hid (((dC X).drop ((i + 1) * 2)).length = (X.length - (i + 1)) * 2) := by unfold Hid; rw [List.length_drop, hlen]; omega
  have o0 : Hid (∀ u ∈ (dC X).take (i * 2), u.oneCell' = true) := fun u hu => hone u (List.mem_of_mem_take hu)
  have o1 : Hid (∀ u ∈ (dC X).drop ((i + 1) * 2), u.oneCell' = true) := fun u hu => hone u (List.mem_of_mem_drop hu)
  have HE : Hid (dC (X.eraseIdx i) = (dC X).take (i * 2) ++ (dC X).drop ((i + 1) * 2)) := by
    unfold Hid
    rw [List.eraseIdx_eq_take_drop_succ, dC_append, dC_take, dC_drop]
  have HEl : Hid ((X.eraseIdx i).length = i + (X.length - (i + 1))) := by unfold Hid; rw [List.length_eraseIdx_of_lt hi]; omega
  generalize (dC X).take (i * 2) = N0 at *
  generalize (dC X).drop ((i + 1) * 2) = N1 at *
  obtain ⟨i0, hi0, hz0, hz1, hz2⟩ := info_parts Tryd.infoDrop
  have Hi := hide hi0
  have Hz0 := hide hz0
  have Hz1 := hide hz1
  have Hz2 := hide hz2
  have hic : i ≤ cap := by omega
  have hil : i ≤ X.length := by omega
  have hwr : IntKind.i64.wrap ((i : Int) + 1) = (i : Int) + 1 := by rw [IntKind.wrap_i64]; omega
  have hp0 : (0 : Int) ≤ (i : Int) + 1 := by omega
  have hp1 : (i : Int) + 1 ≤ (X.length : Int) := by omega
  have hp2 : ((i : Int) + 1).toNat = i + 1 := by omega
  unfold maxLen at h2
  clear h h3 hlen hone hi0 hz0 hz1 hz2
  go_enter Tryd.func13, Tryd.ntmps13
  go_wp2_with (first
    | (at_builtin; refine wpList_append_own_at w rfl _ _ 37 rfl w.heap.size 23 i0 (.agg #[.int .i64 0, .string ⟨#[]⟩]) 2 24 Tryd.underlying37 Hi.out Hz0.out Hz1.out Hz2.out rfl (by decide) (.slice none 0 0) 0 [] rfl (World.ownsRow_nil _ _ _ _) ⟨g, 0, none⟩ i cap N0 rfl s0.out hnews0.out o0.out (by unfold maxLen; omega) (by omega) (Nat.le_refl _) ?_; intro v1 w1 ho1 hg1 hn1 ha1; rw [Nat.zero_add, List.nil_append] at ho1; have hb1 : Below w.heap.size w w1 := (Below.refl _ w).grown hg1 (Nat.le_refl _) (fun q hq => by cases hq); have hs1 := hb1.size; have hc1 := cell_below hb1 hc; have hN1 := hnews.out w1 hb1; obtain ⟨a1, c1, rfl, q1, q2⟩ := own_slice ho1)
    | (at_builtin; refine wpList_append_own_at w1 rfl _ _ 37 rfl w.heap.size 23 i0 (.agg #[.int .i64 0, .string ⟨#[]⟩]) 2 24 Tryd.underlying37 Hi.out Hz0.out Hz1.out Hz2.out rfl (by decide) (.slice a1 i c1) i N0 rfl ho1 A (X.length - (i + 1)) (cap - (i + 1)) N1 rfl s1.out hN1 o1.out (by unfold maxLen; omega) (by omega) hs1 ?_; intro v2 w2 ho2 hg2 hn2 ha2; have hb2 : Below w.heap.size w w2 := hb1.grown hg2 hs1 (fun q hq => (ho1.lt q hq).1); have hc2 := cell_below hb2 hc; have hf2 := (World.frozen?_of_block (w := w) (hb2.block b hbl.2)).trans H.out.frz; obtain ⟨a2, c2, rfl, q3, q4⟩ := own_slice ho2)
    | fail)
  go_end0
  refine ⟨rfl, H.out.store ((Kept.refl _ w).below hb2) (by rw [HE.out, HEl.out]; exact own_mono ho2 (by omega)) (fun q hq => Or.inr (ho2.lt q hq).1) (Nat.le_trans (List.length_eraseIdx_le _ _) hf) (fun d hd => H.out.good d (List.mem_of_mem_eraseIdx hd))⟩
end Go.Proofs.YtjoklnalkehegaaDoor
