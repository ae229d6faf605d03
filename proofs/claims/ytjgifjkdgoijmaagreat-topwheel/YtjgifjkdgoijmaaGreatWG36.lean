/-
  Lemmas for the law above, joined into one text (AirDel, AirS, AirT, WhN). No statement is proved here.
-/
import Derived.Test.YtjgifjkdgoijmaaGreatWG34
import Derived.Test.YtjgifjkdgoijmaaGreatWG8
import Derived.Deep.RegionLaw
import Derived.Deep.DrawnRows
import Derived.Deep.DeepCutAuto
import Derived.Test.YtjgifjkdgoijmaaGreatWAirAdd
import Derived.Test.YtjgifjkdgoijmaaGreatWG0
namespace Go.Proofs.YtjgifjkdgoijmaaGreat
open Go.RowKit Go.Maps
set_option linter.unusedVariables false
set_option maxRecDepth 100000

theorem dC_erase (X : List Drp) (i : Nat) : dC (X.eraseIdx i) = (dC X).take (i * 2) ++ (dC X).drop ((i + 1) * 2) := by
  rw [List.eraseIdx_eq_take_drop_succ, dC_append, dC_take, dC_drop]
theorem erase_len {X : List Drp} {i m : Nat} (hm : X.length = m + 1) (hi : i ≤ m) : (X.eraseIdx i).length = m := by
  rw [List.length_eraseIdx_of_lt (by omega), hm]; rfl

set_option maxHeartbeats 4000000 in
theorem delete_ok {w : World} {B : Nat} {v : Value} {X : List Drp} {i : Nat} (h : w.ownsRow B 37 2 v X.length (dC X)) (hi : i < X.length) (hX : X.length ≤ 1000) :
    Calls Tryz.prog 57 #[v, .int .i64 i, .int .i64 ((i : Int) + 1)] w fun e w' => ∃ v', e = .returned v' ∧ w'.ownsRow B 37 2 v' (X.eraseIdx i).length (dC (X.eraseIdx i)) ∧ Kept (fun k => v.ownBlock = some k) w w' ∧ v'.ownBlock = v.ownBlock := by
  obtain ⟨a, cap, rfl, h1, h2, h3, h4⟩ := own_drops h
  obtain ⟨g, rfl⟩ := h3 (by omega)
  have hlen := dC_len X
  have hone := dC_one X
  have hel := dC_erase X i
  obtain ⟨m, hm⟩ : ∃ m, X.length = m + 1 := ⟨X.length - 1, by omega⟩
  rw [erase_len hm (by omega)]
  rw [hm] at h h1 hi hX hlen ⊢
  unfold maxLen at h2
  have H := hide h
  have HE := hide hel
  clear hel hm h3 h4
  generalize hdc : dC X = D at *
  generalize dC (X.eraseIdx i) = E at *
  clear hdc X
  have hW : w.drew.ownsRow B 37 2 (.slice (some ⟨g, 0, none⟩) (m + 1) cap) (m + 1) D := own_under' H.out (Below.refl _ w).drew
  have HW := hide hW
  have HL := hide hlen
  obtain ⟨i0, hi0, hz0, hz1, hz2⟩ := info_parts Tryz.infoDrop
  have Hi := hide hi0
  have Hz1 := hide hz1
  obtain ⟨A, hA, hnews⟩ : ∃ A : Addr, (if cap = i + 1 then some (⟨g, 0, none⟩ : Addr) else some ⟨g, (i + 1) * 2, none⟩) = some A ∧ Hid (∀ j u, (D.drop ((i + 1) * 2))[j]? = some u → w.drew.cell? (A.add j) = some u) := by
    by_cases c : cap = i + 1
    · refine ⟨⟨g, 0, none⟩, by simp [c], fun j u hu => ?_⟩
      rw [List.getElem?_drop, List.getElem?_eq_none (by omega)] at hu
      cases hu
    · refine ⟨⟨g, (i + 1) * 2, none⟩, by simp [c], fun j u hu => ?_⟩
      rw [List.getElem?_drop] at hu
      have hj := (List.getElem?_eq_some_iff.1 hu).1
      rw [Addr.add_lit, HW.out.cellAt _ (by omega)]
      exact hu
  have s1 : Hid ((D.drop ((i + 1) * 2)).length = (m - i) * 2) := by unfold Hid; rw [List.length_drop, hlen]; omega
  have s2 : Hid (∀ u ∈ D.drop ((i + 1) * 2), u.oneCell' = true) := fun u hu => hone u (List.mem_of_mem_drop hu)
  have s3 : Hid (∀ j, j < (D.drop ((i + 1) * 2)).length → (w.drew.cell? ⟨g, 0 + i * 2 + j, none⟩).isSome = true ∧ w.drew.frozen? ⟨g, 0 + i * 2 + j, none⟩ = false) := by
    intro j hj
    rw [List.length_drop, hlen] at hj
    refine ⟨?_, HW.out.frozenAt _⟩
    rw [HW.out.cellAt _ (by omega)]
    have h9 : i * 2 + j < D.length := by omega
    simp [h9]
  have hic : i ≤ cap := by omega
  have him : i ≤ m := by omega
  have hsum : i + (m - i) = m := by omega
  have hwr : IntKind.i64.wrap ((i : Int) + 1) = (i : Int) + 1 := by rw [IntKind.wrap_i64]; omega
  have hp0 : (0 : Int) ≤ (i : Int) + 1 := by omega
  have hp1 : (i : Int) + 1 ≤ ((m + 1 : Nat) : Int) := by omega
  have hp2 : ((i : Int) + 1).toNat = i + 1 := by omega
  have hp3 : ((i : Int) == (i : Int) + 1) = false := by rw [beq_eq_false_iff_ne]; omega
  generalize hN : D.drop ((i + 1) * 2) = N at *
  have HN := hide hN
  clear hN hlen h hW hone hi0 hz0 hz1 hz2
  go_enter Tryz.func57, Tryz.ntmps57
  go_upto_region 5 with fail
  go_cut [0] (fun t wx => t = .slice (some ⟨g, 0, none⟩) m cap ∧ wx.ownsRow B 37 2 (.slice (some ⟨g, 0, none⟩) (m + 1) cap) (m + 1) (puts D (i * 2) N) ∧ Kept (fun k => (Value.slice (some ⟨g, 0, none⟩) (m + 1) cap).ownBlock = some k) w wx)
  case first =>
    go_region_law (refine step_append_room rfl (.tmp 22) (.tmp 25) 60 rfl 37 i0 2 Tryz.underlying60 Hi.out Hz1.out g 0 i cap (by simp [Act.eval, Act.put]) A (m - i) (cap - (i + 1)) N (by simp [Act.eval, Act.put]) s1.out hnews.out s2.out (by omega) s3.out ?_)
    all_goals
      go_wp2_with fail
      go_meet
      refine ⟨?_, ?_, ?_⟩
      · first | rfl | rw [hsum]
      · exact own_puts N (i * 2) _ D HW.out
      · exact kept_sets ((Kept.refl _ w).below (Below.refl _ w).drew) N _ rfl
  case rest =>
  obtain ⟨rfl, hr, hk⟩ := hcut
  have HR := hide hr
  have HK := hide hk
  clear hr hk
  have hcl : ∀ ty, (Builtin.clear_ #[60] ty #[.slice (some ⟨g, m * 2, none⟩) 1 (cap - m)]).run Tryz.prog wc = .ok (.tuple #[]) (wc.setCells g (m * 2) (Builtin.zeroCells #[.int .i64 0, .string ⟨#[]⟩] 1).toList) :=
    fun ty => run_clear_two wc 60 37 ty _ _ Tryz.underlying60 (fun _ => by kernel_rfl) rfl rfl rfl g (m * 2) _ _ (by omega) (fun t ht => by
      rw [HR.out.cellAt (m * 2 + t) (by omega)]
      have h9 := HR.out.1
      simp [show m * 2 + t < (puts D (i * 2) N).length by omega]) (fun t ht => HR.out.frozenAt _)
  generalize hzc : (Builtin.zeroCells #[.int .i64 0, .string ⟨#[]⟩] 1).toList = zc at *
  clear hzc
  have hmc : m ≤ cap := by omega
  go_wp2
  go_ret
  obtain ⟨ys, hy1, hy2⟩ := own_sets zc (m * 2) wc _ HR.out
  have hc := own_cut hy1 (i := m) (by omega)
  have hN9 := s1.out
  have e : ys.take (m * 2) = E := by
    rw [hy2, HE.out, puts_eq N (i * 2) D (by rw [HL.out]; omega)]
    rw [List.take_append_of_le_length (by rw [List.length_append, List.length_take, HL.out]; omega), List.take_of_length_le]
    rw [List.length_append, List.length_take, HL.out]; omega
  rw [e] at hc
  exact ⟨_, rfl, hc, kept_sets HK.out zc (m * 2) rfl, rfl⟩

/-- The i-th of what is in the air is taken out. -/
theorem take_ok {w : World} {base b : Nat} {v : Value} {X : List Drp} {i : Nat} (h : AQ w base b v X) (hi : i < X.length) :
    Calls Tryz.prog 33 #[.pointer (some ⟨b, 0, none⟩), .int .i64 i] w fun e w' => e = .returned (.tuple #[]) ∧ Moved w base b v (X.eraseIdx i) w' := by
  have hf := h.few
  have D := hide (delete_ok h.row hi (by omega))
  have H := hide h
  have hc := h.cell
  have hsum : IntKind.i64.wrap ((i : Int) + 1) = (i : Int) + 1 := by rw [IntKind.wrap_i64]; omega
  clear h
  go_enter Tryz.func33, Tryz.ntmps33
  go_wp2_with fail
  refine (D.out).mono ?_
  rintro e w1 ⟨v1, rfl, ho, hk, hat⟩
  have hb1 : w1.heap[b]? = w.heap[b]? := hk.block b (H.out.lt b (Or.inl rfl)).2 H.out.ap
  have hc1 : w1.cell? ⟨b, 0, none⟩ = some v := (World.cell?_of_block (w := w) hb1).trans H.out.cell
  have hf1 : w1.frozen? ⟨b, 0, none⟩ = false := (World.frozen?_of_block (w := w) hb1).trans H.out.frz
  have HM := hide (H.out.store hk ho (fun i e => Or.inl (hat ▸ e)) (Nat.le_trans (List.length_eraseIdx_le _ _) hf) (fun d hd => H.out.good d (List.mem_of_mem_eraseIdx hd)))
  obtain ⟨a1, c1, rfl, q1, q2, _⟩ := own_drops ho
  clear hb1 ho hk hat hc D hf q1 q2
  go_wp2
  go_end0
  exact ⟨rfl, HM.out⟩
end Go.Proofs.YtjgifjkdgoijmaaGreat

namespace Go.Proofs.YtjgifjkdgoijmaaGreat
open Go.RowKit Go.Maps
set_option linter.unusedVariables false
set_option maxRecDepth 100000

theorem asend_bad {w : World} {base b : Nat} {v : Value} {X : List Drp} (s : Int) (data : ByteArray) (h : AQ w base b v X) (hd : data.size ≤ maxLen) (hf : aF X.length s data.size ≠ 0) :
    Calls Tryz.prog 11 #[.pointer (some ⟨b, 0, none⟩), dropV s data] w fun e w' => e = .returned (.iface 54 (.int .i64 (aF X.length s data.size : Nat))) ∧ Below w.heap.size w w' := by
  have hb0 : Below w.heap.size w (w.alloc (.cells #[.int .i64 s, .string data] 37)) := (Below.refl _ _).alloc (Nat.le_refl _) _
  have K := hide (fun hf => add_full s data (h.below hb0) hf)
  have HB := hide hb0
  have hn := (dropIn_new w s data)
  obtain ⟨⟨cs, _⟩, cd, _⟩ := hn
  simp only [Nat.zero_add] at cd
  clear h hb0
  unfold maxLen at hd
  unfold dropV at *
  by_cases h1 : s < 1
  · have e : aF X.length s data.size = 1 := by unfold aF; rw [if_pos (Or.inl h1)]
    rw [e]
    clear hf K e
    go_enter Tryz.func11, Tryz.ntmps11
    go_wp2
    go_ret
    exact ⟨rfl, HB.out⟩
  · by_cases h2 : 10000 < s
    · have e : aF X.length s data.size = 1 := by unfold aF; rw [if_pos (Or.inr h2)]
      rw [e]
      clear hf K e
      go_enter Tryz.func11, Tryz.ntmps11
      go_wp2
      go_ret
      exact ⟨rfl, HB.out⟩
    · by_cases h3 : data.size < 1
      · have e : aF X.length s data.size = 3 := by unfold aF; rw [if_neg (by omega), if_pos (Or.inl h3)]
        rw [e]
        clear hf K e
        go_enter Tryz.func11, Tryz.ntmps11
        go_wp2
        go_ret
        exact ⟨rfl, HB.out⟩
      · by_cases h4 : 8 < data.size
        · have e : aF X.length s data.size = 3 := by unfold aF; rw [if_neg (by omega), if_pos (Or.inr h4)]
          rw [e]
          clear hf K e
          go_enter Tryz.func11, Tryz.ntmps11
          go_wp2
          go_ret
          exact ⟨rfl, HB.out⟩
        · have h5 : 60 ≤ X.length := by
            unfold aF at hf
            rw [if_neg (by omega), if_neg (by omega)] at hf
            by_cases c : 60 ≤ X.length
            · exact c
            · rw [if_neg c] at hf; exact absurd rfl hf
          have e : aF X.length s data.size = 4 := by unfold aF; rw [if_neg (by omega), if_neg (by omega), if_pos h5]
          rw [e]
          have K2 := hide (K.out h5)
          clear hf K e
          go_enter Tryz.func11, Tryz.ntmps11
          go_wp2_with fail
          refine (K2.out).mono ?_
          rintro e w1 ⟨rfl, hb⟩
          have HB2 := hide (below_two HB.out hb)
          clear hb
          go_wp2
          go_ret
          exact ⟨rfl, HB2.out⟩
theorem asend_ok {w : World} {base b : Nat} {v : Value} {X : List Drp} (n : Nat) (data : ByteArray) (h : AQ w base b v X) (hf : aF X.length (n : Nat) data.size = 0) :
    Calls Tryz.prog 11 #[.pointer (some ⟨b, 0, none⟩), dropV (n : Nat) data] w fun e w' => e = .returned .nilIface ∧ Moved w base b v (X ++ [(n, data)]) w' := by
  obtain ⟨f1, f2, f3, f4, f5⟩ := aF_ok hf
  have hb0 : Below w.heap.size w (w.alloc (.cells #[.int .i64 (n : Nat), .string data] 37)) := (Below.refl _ _).alloc (Nat.le_refl _) _
  have K := hide (add_ok (n := n) (data := data) (h.below hb0) f5 ⟨by omega, by omega, f3, f4⟩)
  have hbl := h.lt b (Or.inl rfl)
  have H0 := hide (fun w' => Moved.behind (base := base) (w' := w') (X := X ++ [(n, data)]) hb0 hbl.2 (fun i e => (h.lt i (Or.inr e)).2))
  have hn := (dropIn_new w (n : Nat) data)
  obtain ⟨⟨cs, _⟩, cd, _⟩ := hn
  simp only [Nat.zero_add] at cd
  clear h hb0 hf hbl
  unfold dropV at *
  have g1 : ¬ (n : Int) < 1 := by omega
  have g2 : ¬ 10000 < (n : Int) := by omega
  have g3 : ¬ data.size < 1 := by omega
  have g4 : ¬ 8 < data.size := by omega
  go_enter Tryz.func11, Tryz.ntmps11
  go_wp2_with fail
  refine (K.out).mono ?_
  rintro e w1 ⟨rfl, hm⟩
  have HM := hide (H0.out _ hm)
  clear hm
  go_wp2
  go_ret
  exact ⟨rfl, HM.out⟩
/-- Send, whatever the drop. -/
theorem asend_any {w : World} {base b : Nat} {v : Value} {X : List Drp} (s : Int) (data : ByteArray) (h : AQ w base b v X) (hd : data.size ≤ maxLen) :
    Calls Tryz.prog 11 #[.pointer (some ⟨b, 0, none⟩), dropV s data] w fun e w' => e = .returned (aErr (aF X.length s data.size)) ∧ Moved w base b v (aPut X s data) w' := by
  unfold aErr aPut
  by_cases hf : aF X.length s data.size = 0
  · obtain ⟨f1, _⟩ := aF_ok hf
    obtain ⟨n, rfl⟩ : ∃ n : Nat, s = n := ⟨s.toNat, by omega⟩
    rw [if_pos hf, if_pos hf]
    exact asend_ok n data h hf
  · rw [if_neg hf, if_neg hf]
    exact (asend_bad s data h hd hf).mono fun e w' ⟨he, hb⟩ => ⟨he, Moved.same h hb⟩

end Go.Proofs.YtjgifjkdgoijmaaGreat

namespace Go.Proofs.YtjgifjkdgoijmaaGreat
open Go.RowKit Go.Maps
set_option linter.unusedVariables false
set_option maxRecDepth 100000

theorem atwice_out {w : World} {base b : Nat} {v : Value} {X : List Drp} {i : Int} (h : AQ w base b v X) (hi : i < 0 ∨ (X.length : Int) ≤ i) :
    Calls Tryz.prog 12 #[.pointer (some ⟨b, 0, none⟩), .int .i64 i] w fun e w' => e = .returned (.iface 54 (.int .i64 1)) ∧ w = w' := by
  have K := hide (has_out h hi)
  clear h hi
  go_enter Tryz.func12, Tryz.ntmps12
  go_wp2_with fail
  refine (K.out).mono ?_
  rintro e w1 ⟨rfl, rfl⟩
  go_wp2
  go_ret
  exact ⟨rfl, rfl⟩
theorem atwice_in {w : World} {base b : Nat} {v : Value} {X : List Drp} {i : Nat} (h : AQ w base b v X) (hi : i < X.length) :
    Calls Tryz.prog 12 #[.pointer (some ⟨b, 0, none⟩), .int .i64 i] w fun e w' => e = .returned (aErr (aF X.length (dAt X i).1 (dAt X i).2.size)) ∧ Moved w base b v (aPut X (dAt X i).1 (dAt X i).2) w' := by
  have hg := h.good _ (dAt_mem hi)
  have A : Hid (Calls Tryz.prog 31 #[.pointer (some ⟨b, 0, none⟩), dropV (dAt X i).1 (dAt X i).2] w fun e w' => e = .returned (aErr (aF X.length (dAt X i).1 (dAt X i).2.size)) ∧ Moved w base b v (aPut X (dAt X i).1 (dAt X i).2) w') := by
    unfold Hid aErr aPut
    rw [aF_of_good hg]
    by_cases c : 60 ≤ X.length
    · rw [if_pos c, if_neg (by omega), if_neg (by omega)]
      exact (add_full _ _ h c).mono fun e w' ⟨he, hb⟩ => ⟨he, Moved.same h hb⟩
    · rw [if_neg c, if_pos rfl, if_pos rfl]
      exact add_ok h (by omega) hg
  have K := hide (has_in h hi)
  obtain ⟨a, cap, rfl, h1, h2, h3, h4⟩ := own_drops h.row
  obtain ⟨g, rfl⟩ := h3 (by omega)
  obtain ⟨d1, d2⟩ := h4 g rfl i hi
  have hc := h.cell
  clear h h3 h4 hg
  generalize aErr (aF X.length (dAt X i).1 (dAt X i).2.size) = er at *
  generalize aPut X (dAt X i).1 (dAt X i).2 = X' at *
  generalize (dAt X i).1 = n at *
  generalize (dAt X i).2 = data at *
  unfold dropV at *
  go_enter Tryz.func12, Tryz.ntmps12
  go_wp2_with fail
  refine (K.out).mono ?_
  rintro e w1 ⟨rfl, rfl⟩
  go_wp2_with fail
  refine (A.out).mono ?_
  rintro e w1 ⟨rfl, hm⟩
  have HM := hide hm
  clear hm
  go_wp2
  go_ret
  exact ⟨rfl, HM.out⟩

theorem agive_out {w : World} {base b : Nat} {v : Value} {X : List Drp} {i : Int} (h : AQ w base b v X) (hi : i < 0 ∨ (X.length : Int) ≤ i) :
    Calls Tryz.prog 13 #[.pointer (some ⟨b, 0, none⟩), .int .i64 i] w fun e w' => e = .returned (.tuple #[dropV 0 ⟨#[]⟩, .iface 54 (.int .i64 1)]) ∧ Below w.heap.size w w' := by
  have hb0 : Below w.heap.size w (w.alloc (.cells #[.int .i64 0, .string ⟨#[]⟩] 37)) := (Below.refl _ _).alloc (Nat.le_refl _) _
  have K := hide (has_out (h.below hb0) hi)
  have HB := hide hb0
  obtain ⟨⟨c0, f0⟩, c1, f1⟩ := dropIn_new w 0 ⟨#[]⟩
  clear h hi hb0
  go_enter Tryz.func13, Tryz.ntmps13
  go_wp2_with fail
  refine (K.out).mono ?_
  rintro e w1 ⟨rfl, rfl⟩
  go_wp2
  refine bodyPost_ret (v := .tuple #[dropV 0 ⟨#[]⟩, .iface 54 (.int .i64 1)]) (by simp only [Nat.zero_add] at c1; simp [results, Tryz.results13, go_sem, dropV, c0, c1]) rfl ⟨rfl, ?_⟩
  first
    | exact HB.out
    | exact (HB.out.setCell (Nat.le_refl _) _).setCell (Nat.le_refl _) _
    | exact (Below.refl _ _).alloc (Nat.le_refl _) _
/-- A block that a method has made for itself is stored into. -/
theorem Moved.poke2 {w wB w2 : World} {base b g : Nat} {v : Value} {X X' : List Drp} (h : AQ w base b v X) (hB : Below w.heap.size w wB) (hm : Moved wB base b v X' w2) (h1 : w.heap.size ≤ g) (h2 : g < wB.heap.size) (u1 u2 : Value) :
    Moved w base b v X' ((w2.setCell ⟨g, 0, none⟩ u1).setCell ⟨g, 0 + 1, none⟩ u2) := by
  obtain ⟨v', hq, hk, hat⟩ := hm
  refine ⟨v', hq.keep fun i hi => ?_, ((((Kept.refl _ w).below hB).trans hk fun i _ e => e).setCell _ _ (Or.inr h1)).setCell _ _ (Or.inr h1), fun i e => ?_⟩
  · have hne : i ≠ g := by
      rcases hi with rfl | e
      · have := (h.lt i (Or.inl rfl)).2; omega
      · rcases hat i e with e2 | e2
        · have := (h.lt i (Or.inr e2)).2; omega
        · omega
    exact (Below.heap_setCell _ ⟨g, 0 + 1, none⟩ u2 i hne).trans (Below.heap_setCell _ ⟨g, 0, none⟩ u1 i hne)
  · rcases hat i e with e2 | e2
    · exact Or.inl e2
    · exact Or.inr (by omega)
theorem Moved.dropIn {w w2 : World} {base b g : Nat} {v : Value} {X' : List Drp} {s : Int} {d : ByteArray} (hm : Moved w base b v X' w2) (hb : g ≠ b) (hv : v.ownBlock ≠ some g) (h : DropIn w g s d) : DropIn w2 g s d := by
  obtain ⟨v', hq, hk, hat⟩ := hm
  have hg : w2.heap[g]? = w.heap[g]? := hk.block g h.lt fun e => by
    rcases e with e | e
    · exact hb e
    · exact hv e
  have hc : ∀ i, w2.cell? ⟨g, i, none⟩ = w.cell? ⟨g, i, none⟩ := fun i => World.cell?_of_block (w := w) hg
  have hf : ∀ i, w2.frozen? ⟨g, i, none⟩ = w.frozen? ⟨g, i, none⟩ := fun i => World.frozen?_of_block (w := w) hg
  unfold DropIn
  rw [hc, hf, hc, hf]
  exact h
theorem agive_in {w : World} {base b : Nat} {v : Value} {X : List Drp} {i : Nat} (h : AQ w base b v X) (hi : i < X.length) :
    Calls Tryz.prog 13 #[.pointer (some ⟨b, 0, none⟩), .int .i64 i] w fun e w' => e = .returned (.tuple #[dropV (dAt X i).1 (dAt X i).2, .nilIface]) ∧ Moved w base b v (X.eraseIdx i) w' := by
  have H := hide h
  have hbA : Below w.heap.size w (w.alloc (.cells #[.int .i64 0, .string ⟨#[]⟩] 37)) := (Below.refl _ _).alloc (Nat.le_refl _) _
  have K := hide (has_in (h.below hbA) hi)
  obtain ⟨a, cap, rfl, h1, h2, h3, h4⟩ := own_drops h.row
  obtain ⟨g, rfl⟩ := h3 (by omega)
  obtain ⟨d1, d2⟩ := h4 g rfl i hi
  have d1' := cell_below hbA d1
  have d2' := cell_below hbA d2
  have hc := cell_below hbA h.cell
  have hbl := (h.lt b (Or.inl rfl)).2
  have hgl : g < w.heap.size := (h.lt g (Or.inr rfl)).2
  have R0 := hide (dropIn_new w 0 ⟨#[]⟩)
  have hsA : w.heap.size < (w.alloc (.cells #[.int .i64 0, .string ⟨#[]⟩] 37)).heap.size := by simp
  have HbA := hide hbA
  clear h h3 h4 d1 d2 hbA
  generalize hn : (dAt X i).1 = n at *
  generalize hd : (dAt X i).2 = data at *
  clear hn hd
  go_enter Tryz.func13, Tryz.ntmps13
  go_wp2_with fail
  refine (K.out).mono ?_
  rintro e w1 ⟨rfl, rfl⟩
  generalize hgs : w.heap.size = sb at *
  have hbB : Below sb w ((w.alloc (.cells #[.int .i64 0, .string ⟨#[]⟩] 37)).alloc (.cells #[.int .i64 (n : Nat), .string data] 37)) := HbA.out.alloc (by omega) _
  generalize hwA : w.alloc (.cells #[.int .i64 0, .string ⟨#[]⟩] 37) = wA at *
  have R1 := hide (R0.out.below ((Below.refl _ wA).alloc (Nat.le_refl _) (.cells #[.int .i64 (n : Nat), .string data] 37)))
  have L1 := hide (dropIn_new wA (n : Nat) data)
  have HB := hide hbB
  have T := hide (take_ok (H.out.below (hgs ▸ hbB)) hi)
  clear hbB K
  go_wp2_with fail
  refine (T.out).mono ?_
  rintro e w2 ⟨rfl, hm⟩
  have HM := hide hm
  have hgs2 : g ≠ sb := by omega
  have hgA : g ≠ wA.heap.size := by omega
  have hbA2 : wA.heap.size ≠ b := by omega
  have hv1 : (Value.slice (some ⟨g, 0, none⟩) X.length cap).ownBlock ≠ some sb := fun e => hgs2 (Option.some.inj e)
  have hv2 : (Value.slice (some ⟨g, 0, none⟩) X.length cap).ownBlock ≠ some wA.heap.size := fun e => hgA (Option.some.inj e)
  obtain ⟨⟨c0, f0⟩, c1, f1⟩ := hm.dropIn (by omega) hv1 R1.out
  obtain ⟨⟨e0, _⟩, e1, _⟩ := hm.dropIn hbA2 hv2 L1.out
  have hsB : sb < (wA.alloc (.cells #[.int .i64 (n : Nat), .string data] 37)).heap.size := Nat.lt_of_lt_of_le hsA ((Below.refl _ wA).alloc (Nat.le_refl _) _).size
  have HP := hide (Moved.poke2 H.out (hgs ▸ HB.out) hm (g := sb) (by omega) hsB (.int .i64 (n : Nat)) (.string data))
  clear hm T
  simp only [Nat.zero_add] at e1
  go_wp2
  refine bodyPost_ret (v := .tuple #[dropV (n : Nat) data, .nilIface]) (by simp only [Nat.zero_add] at c1; simp [results, Tryz.results13, go_sem, dropV, c0, c1]) rfl ⟨rfl, ?_⟩
  exact HP.out

theorem aall_ok {w : World} {base b : Nat} {v : Value} {X : List Drp} (h : AQ w base b v X) :
    Calls Tryz.prog 15 #[.pointer (some ⟨b, 0, none⟩)] w fun e w' => ∃ v', e = .returned v' ∧ w'.ownsRow w.heap.size 3 1 v' X.length ((List.range X.length).map fun k : Nat => .int .i64 ((dAt X k).1 : Nat)) ∧ Below w.heap.size w w' := by
  have hfew := h.few
  obtain ⟨a, cap, rfl, h1, h2, h3, h4⟩ := own_drops h.row
  have H3 := hide h3
  have H4 := hide h4
  have hc := h.cell
  obtain ⟨i0, hi0, hz0, hz1, hz2⟩ := info_parts Tryz.infoInt
  have Hi := hide hi0
  have Hz0 := hide hz0
  have Hz1 := hide hz1
  have Hz2 := hide hz2
  clear h h3 h4 hi0 hz0 hz1 hz2
  generalize hn : X.length = n at *
  clear hn
  generalize hs : (fun k : Nat => Value.int .i64 ((dAt X k).1 : Nat)) = S at *
  go_enter Tryz.func15, Tryz.ntmps15
  go_wp2
  go_loopw [3, 11] (fun s i wr => ∃ j : Nat, j ≤ n ∧ i = .int .i64 j ∧ wr.ownsRow w.heap.size 3 1 s j ((List.range j).map S) ∧ Below w.heap.size w wr) (fun _ i _ => n - (intOf i).toNat)
  case atStart => exact ⟨0, Nat.zero_le _, rfl, World.ownsRow_nil _ _ _ _, Below.refl _ _⟩
  case round =>
    obtain ⟨j, hj, rfl, hr, hb⟩ := hrel
    have HR := hide hr
    have HB := hide hb
    have hbs := hb.size
    clear hr hb
    by_cases hlt : j < n
    · obtain ⟨g, rfl⟩ := H3.out (by omega)
      obtain ⟨d1, d2⟩ := H4.out g rfl j hlt
      have d1' := cell_below HB.out d1
      have d2' := cell_below HB.out d2
      have HS : Hid (S j = .int .i64 ((dAt X j).1 : Nat)) := by unfold Hid; rw [← hs]
      clear d1 d2
      generalize (dAt X j).1 = y at *
      generalize (dAt X j).2 = z at *
      have hbA : Below wr.heap.size wr (wr.alloc (.cells #[.int .i64 (y : Nat), .string z] 37)) := (Below.refl _ _).alloc (Nat.le_refl _) _
      obtain ⟨⟨e1, _⟩, e2, _⟩ := dropIn_new wr (y : Nat) z
      have HO := hide ((own_under' HR.out hbA).alloc (.cells #[.int .i64 (y : Nat)] 3))
      clear hbA
      go_wp2_with (first | (at_builtin; refine wpList_append_own _ rfl _ _ 22 rfl w.heap.size 3 i0 (.int .i64 0) 1 8 Tryz.underlying22 Hi.out Hz0.out Hz1.out Hz2.out rfl (by decide) _ _ _ rfl HO.out ⟨wr.heap.size + 1, 0, none⟩ 1 1 [.int .i64 (y : Nat)] rfl rfl (by have h9 := cell_one_new (wr.alloc (.cells #[.int .i64 (y : Nat), .string z] 37)) (.int .i64 (y : Nat)) 3; simpa using h9) (fun x hx => by simp at hx; subst hx; rfl) (by unfold maxLen; omega) (by omega) (by simp; omega) ?_; intro v3 w3 hown3 hgrow3 hnil3) | fail)
      go_roundw
      case rel =>
        refine ⟨j + 1, by omega, by go_num, ?_, ((HB.out.alloc hbs _).alloc (by simp; omega) _).grown hgrow3 (by simp; omega) (fun q hq => (HR.out.lt q hq).1)⟩
        rw [List.range_succ, List.map_append]
        show w3.ownsRow _ _ _ _ _ (_ ++ [S j])
        rw [HS.out]
        exact hown3
      case measure => simp [intOf]; omega
    · obtain rfl : j = n := by omega
      go_wp2
      go_ret
      exact ⟨_, rfl, HR.out, HB.out⟩
end Go.Proofs.YtjgifjkdgoijmaaGreat

namespace Go.Proofs.YtjgifjkdgoijmaaGreat
set_option linter.unusedVariables false
set_option maxRecDepth 100000

/-- The seed at time t of a wheel of k blocks with e more a round. -/
def whAt (k e t : Nat) : Nat := if k ≤ t % (k + e) then t % (k + e) + 1 + t / (k + e) * e else t % (k + e) + 1
/-- A wheel that may be. -/
def WhOk (k e : Int) : Prop := 1 ≤ k ∧ k ≤ 16 ∧ 0 ≤ e ∧ e ≤ 16
instance (k e : Int) : Decidable (WhOk k e) := by unfold WhOk; exact inferInstance

theorem whAt_le {k e t : Nat} : whAt k e t ≤ t + 1 := by
  have h := Nat.div_add_mod t (k + e)
  have h2 : (k + e) * (t / (k + e)) = t / (k + e) * k + t / (k + e) * e := by rw [Nat.mul_comm, Nat.mul_add]
  unfold whAt
  split <;> omega
theorem whAt_pos {k e t : Nat} : 1 ≤ whAt k e t := by
  unfold whAt
  split <;> omega
/-- The seed at a time, by the time's round and its place in it. -/
theorem whAt_of {k e q p : Nat} (hp : p < k + e) : whAt k e (q * (k + e) + p) = if k ≤ p then p + 1 + q * e else p + 1 := by
  have h0 : 0 < k + e := by omega
  have h1 : (q * (k + e) + p) % (k + e) = p := by rw [Nat.mul_comm, Nat.mul_add_mod, Nat.mod_eq_of_lt hp]
  have h2 : (q * (k + e) + p) / (k + e) = q := by rw [Nat.mul_comm, Nat.mul_add_div h0, Nat.div_eq_of_lt hp]; omega
  unfold whAt
  rw [h1, h2]
theorem wh_parts {k e : Nat} (t : Nat) (hk : 1 ≤ k) : ∃ q p, p < k + e ∧ t = q * (k + e) + p :=
  ⟨t / (k + e), t % (k + e), Nat.mod_lt _ (by omega), by rw [Nat.mul_comm]; exact (Nat.div_add_mod t (k + e)).symm⟩
/-- A round later. -/
theorem whAt_round {k e t : Nat} (hk : 1 ≤ k) : (whAt k e t ≤ k ∧ whAt k e (t + k + e) = whAt k e t) ∨ (k < whAt k e t ∧ whAt k e (t + k + e) = whAt k e t + e) := by
  obtain ⟨q, p, hp, rfl⟩ := wh_parts (e := e) t hk
  have h1 : q * (k + e) + p + k + e = (q + 1) * (k + e) + p := by rw [Nat.add_mul]; omega
  rw [h1, whAt_of hp, whAt_of hp]
  have h2 : (q + 1) * e = q * e + e := by rw [Nat.add_mul]; omega
  rw [h2]
  by_cases h : k ≤ p
  · rw [if_pos h, if_pos h]; omega
  · rw [if_neg h, if_neg h]; omega
end Go.Proofs.YtjgifjkdgoijmaaGreat
