/-
  Our own contract of slices.Delete of one drop, over this seat's translation. Lemmas for the laws above; no statement is proved here.
-/
import Derived.Test.YtjoklnalkehegaaAirN
import Derived.Test.YtjoklnalkehegaaOwnCut
import Derived.Deep.RegionLaw
import Derived.Deep.DrawnRows
import Derived.Deep.DeepCutAuto
namespace Go.Proofs.Ytjoklnalkehegaa
open Go.RowKit Go.Maps
set_option linter.unusedVariables false
set_option maxRecDepth 100000

theorem dC_erase (X : List Drp) (i : Nat) : dC (X.eraseIdx i) = (dC X).take (i * 2) ++ (dC X).drop ((i + 1) * 2) := by
  rw [List.eraseIdx_eq_take_drop_succ, dC_append, dC_take, dC_drop]
theorem erase_len {X : List Drp} {i m : Nat} (hm : X.length = m + 1) (hi : i ≤ m) : (X.eraseIdx i).length = m := by
  rw [List.length_eraseIdx_of_lt (by omega), hm]; rfl

set_option maxHeartbeats 4000000 in
theorem delete_ok {w : World} {B : Nat} {v : Value} {X : List Drp} {i : Nat} (h : w.ownsRow B 30 2 v X.length (dC X)) (hi : i < X.length) (hX : X.length ≤ 1000) :
    Calls Try.prog 14 #[v, .int .i64 i, .int .i64 ((i : Int) + 1)] w fun e w' => ∃ v', e = .returned v' ∧ w'.ownsRow B 30 2 v' (X.eraseIdx i).length (dC (X.eraseIdx i)) ∧ Kept (fun k => v.ownBlock = some k) w w' ∧ v'.ownBlock = v.ownBlock := by
  obtain ⟨a, cap, rfl, h1, h2, h3, h4⟩ := own_drops h
  obtain ⟨g, rfl⟩ := h3 (by omega)
  have hlen := dC_len X
  have hone := dC_one X
  have hel := dC_erase X i
  obtain ⟨m, hm⟩ : ∃ m, X.length = m + 1 := ⟨X.length - 1, by omega⟩
  rw [erase_len hm (by omega)]
  rw [hm] at h h1 hi hX hlen ⊢
  unfold maxLen at h2
  have H := hide h
  have HE := hide hel
  clear hel hm h3 h4
  generalize hdc : dC X = D at *
  generalize dC (X.eraseIdx i) = E at *
  clear hdc X
  have hW : w.drew.ownsRow B 30 2 (.slice (some ⟨g, 0, none⟩) (m + 1) cap) (m + 1) D := own_under' H.out (Below.refl _ w).drew
  have HW := hide hW
  have HL := hide hlen
  obtain ⟨i0, hi0, hz0, hz1, hz2⟩ := info_parts Try.infoDrop
  have Hi := hide hi0
  have Hz1 := hide hz1
  obtain ⟨A, hA, hnews⟩ : ∃ A : Addr, (if cap = i + 1 then some (⟨g, 0, none⟩ : Addr) else some ⟨g, (i + 1) * 2, none⟩) = some A ∧ Hid (∀ j u, (D.drop ((i + 1) * 2))[j]? = some u → w.drew.cell? (A.add j) = some u) := by
    by_cases c : cap = i + 1
    · refine ⟨⟨g, 0, none⟩, by simp [c], fun j u hu => ?_⟩
      rw [List.getElem?_drop, List.getElem?_eq_none (by omega)] at hu
      cases hu
    · refine ⟨⟨g, (i + 1) * 2, none⟩, by simp [c], fun j u hu => ?_⟩
      rw [List.getElem?_drop] at hu
      have hj := (List.getElem?_eq_some_iff.1 hu).1
      rw [Addr.add_lit, HW.out.cellAt _ (by omega)]
      exact hu
  have s1 : Hid ((D.drop ((i + 1) * 2)).length = (m - i) * 2) := by unfold Hid; rw [List.length_drop, hlen]; omega
  have s2 : Hid (∀ u ∈ D.drop ((i + 1) * 2), u.oneCell' = true) := fun u hu => hone u (List.mem_of_mem_drop hu)
  have s3 : Hid (∀ j, j < (D.drop ((i + 1) * 2)).length → (w.drew.cell? ⟨g, 0 + i * 2 + j, none⟩).isSome = true ∧ w.drew.frozen? ⟨g, 0 + i * 2 + j, none⟩ = false) := by
    intro j hj
    rw [List.length_drop, hlen] at hj
    refine ⟨?_, HW.out.frozenAt _⟩
    rw [HW.out.cellAt _ (by omega)]
    have h9 : i * 2 + j < D.length := by omega
    simp [h9]
  have hic : i ≤ cap := by omega
  have him : i ≤ m := by omega
  have hsum : i + (m - i) = m := by omega
  have hwr : IntKind.i64.wrap ((i : Int) + 1) = (i : Int) + 1 := by rw [IntKind.wrap_i64]; omega
  have hp0 : (0 : Int) ≤ (i : Int) + 1 := by omega
  have hp1 : (i : Int) + 1 ≤ ((m + 1 : Nat) : Int) := by omega
  have hp2 : ((i : Int) + 1).toNat = i + 1 := by omega
  have hp3 : ((i : Int) == (i : Int) + 1) = false := by rw [beq_eq_false_iff_ne]; omega
  generalize hN : D.drop ((i + 1) * 2) = N at *
  have HN := hide hN
  clear hN hlen h hW hone hi0 hz0 hz1 hz2
  go_enter Try.func14, Try.ntmps14
  go_upto_region 5 with fail
  go_cut [0] (fun t wx => t = .slice (some ⟨g, 0, none⟩) m cap ∧ wx.ownsRow B 30 2 (.slice (some ⟨g, 0, none⟩) (m + 1) cap) (m + 1) (puts D (i * 2) N) ∧ Kept (fun k => (Value.slice (some ⟨g, 0, none⟩) (m + 1) cap).ownBlock = some k) w wx)
  case first =>
    go_region_law (refine step_append_room rfl (.tmp 22) (.tmp 25) 22 rfl 30 i0 2 Try.underlying22 Hi.out Hz1.out g 0 i cap (by simp [Act.eval, Act.put]) A (m - i) (cap - (i + 1)) N (by simp [Act.eval, Act.put]) s1.out hnews.out s2.out (by omega) s3.out ?_)
    all_goals
      go_wp2_with fail
      go_meet
      refine ⟨?_, ?_, ?_⟩
      · first | rfl | rw [hsum]
      · exact own_puts N (i * 2) _ D HW.out
      · exact kept_sets ((Kept.refl _ w).below (Below.refl _ w).drew) N _ rfl
  case rest =>
  obtain ⟨rfl, hr, hk⟩ := hcut
  have HR := hide hr
  have HK := hide hk
  clear hr hk
  have hcl : ∀ ty, (Builtin.clear_ #[22] ty #[.slice (some ⟨g, m * 2, none⟩) 1 (cap - m)]).run Try.prog wc = .ok (.tuple #[]) (wc.setCells g (m * 2) (Builtin.zeroCells #[.int .i64 0, .string ⟨#[]⟩] 1).toList) :=
    fun ty => run_clear_two wc 22 30 ty _ _ Try.underlying22 (fun _ => by kernel_rfl) rfl rfl rfl g (m * 2) _ _ (by omega) (fun t ht => by
      rw [HR.out.cellAt (m * 2 + t) (by omega)]
      have h9 := HR.out.1
      simp [show m * 2 + t < (puts D (i * 2) N).length by omega]) (fun t ht => HR.out.frozenAt _)
  generalize hzc : (Builtin.zeroCells #[.int .i64 0, .string ⟨#[]⟩] 1).toList = zc at *
  clear hzc
  have hmc : m ≤ cap := by omega
  go_wp2
  go_ret
  obtain ⟨ys, hy1, hy2⟩ := own_sets zc (m * 2) wc _ HR.out
  have hc := own_cut hy1 (i := m) (by omega)
  have hN9 := s1.out
  have e : ys.take (m * 2) = E := by
    rw [hy2, HE.out, puts_eq N (i * 2) D (by rw [HL.out]; omega)]
    rw [List.take_append_of_le_length (by rw [List.length_append, List.length_take, HL.out]; omega), List.take_of_length_le]
    rw [List.length_append, List.length_take, HL.out]; omega
  rw [e] at hc
  exact ⟨_, rfl, hc, kept_sets HK.out zc (m * 2) rfl, rfl⟩

/-- The i-th of what is in the air is taken out. -/
theorem take_ok {w : World} {base b : Nat} {v : Value} {X : List Drp} {i : Nat} (h : AQ w base b v X) (hi : i < X.length) :
    Calls Try.prog 12 #[.pointer (some ⟨b, 0, none⟩), .int .i64 i] w fun e w' => e = .returned (.tuple #[]) ∧ Moved w base b v (X.eraseIdx i) w' := by
  have hf := h.few
  have D := hide (delete_ok h.row hi (by omega))
  have H := hide h
  have hc := h.cell
  have hsum : IntKind.i64.wrap ((i : Int) + 1) = (i : Int) + 1 := by rw [IntKind.wrap_i64]; omega
  clear h
  go_enter Try.func12, Try.ntmps12
  go_wp2_with fail
  refine (D.out).mono ?_
  rintro e w1 ⟨v1, rfl, ho, hk, hat⟩
  have hb1 : w1.heap[b]? = w.heap[b]? := hk.block b (H.out.lt b (Or.inl rfl)).2 H.out.ap
  have hc1 : w1.cell? ⟨b, 0, none⟩ = some v := (World.cell?_of_block (w := w) hb1).trans H.out.cell
  have hf1 : w1.frozen? ⟨b, 0, none⟩ = false := (World.frozen?_of_block (w := w) hb1).trans H.out.frz
  have HM := hide (H.out.store hk ho (fun i e => Or.inl (hat ▸ e)) (Nat.le_trans (List.length_eraseIdx_le _ _) hf) (fun d hd => H.out.good d (List.mem_of_mem_eraseIdx hd)))
  obtain ⟨a1, c1, rfl, q1, q2, _⟩ := own_drops ho
  clear hb1 ho hk hat hc D hf q1 q2
  go_wp2
  go_end0
  exact ⟨rfl, HM.out⟩
end Go.Proofs.Ytjoklnalkehegaa
