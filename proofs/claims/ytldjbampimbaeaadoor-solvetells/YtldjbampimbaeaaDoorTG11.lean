/-
  Lemmas for the law above, joined into one text (RSeeds, RRank). No statement is proved here.
-/
import Derived.Test.YtldjbampimbaeaaDoorTG8
import Derived.Test.YtldjbampimbaeaaDoorTG5
import Derived.Test.YtldjbampimbaeaaDoorTG10
namespace Go.Proofs.YtldjbampimbaeaaDoor
open Go.RowKit
set_option linter.unusedVariables false
set_option maxRecDepth 100000

/-- What is wrong with seeds: its number. -/
noncomputable def fS (k : Int) (len : Nat) (f : Nat → Int) : Int := @ite Int (60 < len) (Nat.decLt _ _) 4 (@ite Int (1 ≤ k ∧ k ≤ 16) inferInstance (@ite Int (∃ j, j < len ∧ badS (f j) = true) (Classical.propDecidable _) 1 0) 1)
set_option maxHeartbeats 2000000 in
theorem rseeds_ok (k : Int) (v : Value) (len : Nat) (f : Nat → Int) (w : World) (hv : IntsAt w v len f) :
    Calls Tryd.prog 5 #[.int .i64 k, v] w fun e w' => e = .returned (.int .i64 (fS k len f)) ∧ w = w' := by
  obtain ⟨a, cap, rfl, h0⟩ := hv.open
  by_cases hl : 60 < len
  · have e : fS k len f = 4 := by unfold fS; exact if_pos hl
    rw [e]
    clear e h0 hv
    go_enter Tryd.func5, Tryd.ntmps5
    go_wp2
    go_ret
    exact ⟨rfl, rfl⟩
  have hl' : len ≤ 60 := by omega
  by_cases h1 : k < 1
  · have e : fS k len f = 1 := by unfold fS; rw [if_neg hl, if_neg (by omega)]
    rw [e]
    clear e h0 hv hl
    go_enter Tryd.func5, Tryd.ntmps5
    go_wp2
    go_ret
    exact ⟨rfl, rfl⟩
  by_cases h2 : 16 < k
  · have e : fS k len f = 1 := by unfold fS; rw [if_neg hl, if_neg (by omega)]
    rw [e]
    clear e h0 hv hl
    go_enter Tryd.func5, Tryd.ntmps5
    go_wp2
    go_ret
    exact ⟨rfl, rfl⟩
  have e : fS k len f = @ite Int (∃ j, j < len ∧ badS (f j) = true) (Classical.propDecidable _) 1 0 := by unfold fS; rw [if_neg hl, if_pos (by omega)]
  rw [e]
  have H0 := hide h0
  obtain ⟨y, hy⟩ : ∃ y : Int, y = @ite Int (∃ j, j < len ∧ badS (f j) = true) (Classical.propDecidable _) 1 0 := ⟨_, rfl⟩
  rw [← hy]
  have HY1 : Hid ((∃ j, j < len ∧ badS (f j) = true) → y = 1) := fun h => by rw [hy]; exact if_pos h
  have HY0 : Hid ((¬ ∃ j, j < len ∧ badS (f j) = true) → y = 0) := fun h => by rw [hy]; exact if_neg h
  clear e h0 hv hl hy
  go_enter Tryd.func5, Tryd.ntmps5
  go_wp2
  go_loopw [5] (fun i wr => ∃ j : Nat, j ≤ len ∧ i = .int .i64 j ∧ w = wr ∧ ∀ q, q < j → badS (f q) = false) (fun i _ => len - (intOf i).toNat)
  case atStart => exact ⟨0, Nat.zero_le _, rfl, rfl, fun q hq => absurd hq (Nat.not_lt_zero _)⟩
  case round =>
    obtain ⟨j, hj, rfl, hw, hno⟩ := hrel
    subst hw
    have HN := hide hno
    clear hno
    by_cases hlt : j < len
    · obtain ⟨b, o, ha, hc1, hc2, hc⟩ := H0.out (by omega)
      subst ha
      have hcj := hc j hlt
      unfold maxLen at hc2
      clear hc
      have hX : (badS (f j) = true ↔ f j < 1 ∨ 10000 < f j) := by unfold badS; simp; try omega
      have HX := hide hX
      clear hX
      have HY : Hid (badS (f j) = true → y = 1) := fun h => HY1.out ⟨j, hlt, h⟩
      have HZ : Hid (badS (f j) = false → ∀ q, q < j + 1 → badS (f q) = false) := fun h q hq => by
        by_cases e : q = j
        · rw [e]; exact h
        · exact HN.out q (by omega)
      have HB : Hid (badS (f j) = true ∨ badS (f j) = false) := by cases badS (f j); exact Or.inr rfl; exact Or.inl rfl
      generalize f j = x at *
      by_cases h3 : x < 1
      · have E1 := hide (HY.out (HX.out.2 (Or.inl h3)))
        go_wp2
        go_ret
        exact ⟨by rw [E1.out]; rfl, rfl⟩
      · by_cases h4 : 10000 < x
        · have E1 := hide (HY.out (HX.out.2 (Or.inr h4)))
          go_wp2
          go_ret
          exact ⟨by rw [E1.out]; rfl, rfl⟩
        · have HGo := hide (HZ.out (HB.out.resolve_left (fun h => by rcases HX.out.1 h with h | h <;> omega)))
          go_wp2
          go_roundw
          case rel => exact ⟨j + 1, by omega, by go_num, by first | rfl | trivial, HGo.out⟩
          case measure => simp [intOf]; omega
    · obtain rfl : j = len := by omega
      have E1 := hide (HY0.out (fun ⟨i, hi, hb⟩ => by rw [HN.out i hi] at hb; cases hb))
      go_wp2
      go_ret
      exact ⟨by rw [E1.out]; rfl, rfl⟩
end Go.Proofs.YtldjbampimbaeaaDoor

namespace Go.Proofs.YtldjbampimbaeaaDoor
open Go.RowKit
set_option linter.unusedVariables false
set_option maxRecDepth 100000

theorem setL16 {k seed : Nat} (hk : 1 ≤ k) (hk2 : k ≤ 16) (h1 : 1 ≤ seed) : ∀ p ∈ setL k seed, p < 16 := fun p hp => Nat.lt_of_lt_of_le (setL_lt hk h1 hp) hk2
theorem fill_lin (f : Nat → Bool) (d : ByteArray) : Array.foldl (fun (cs : Array Value) (x : Value × Nat) => cs.setIfInBounds x.snd x.fst) #[.bool false, .bool false, .bool false, .bool false, .bool false, .bool false, .bool false, .bool false, .bool false, .bool false, .bool false, .bool false, .bool false, .bool false, .bool false, .bool false, .string ⟨#[]⟩] (linC f d).zipIdx 0 (linC f d).size = linC f d := by kernel_rfl
theorem ArrI.stored {w : World} {b : Nat} {f : Nat → Int} (h : ArrI w b f) (f' : Nat → Int) : ArrI (w.setCells b 0 (arrC f').toList) b f' := fun j hj => by
  refine ⟨?_, by rw [World.frozen?_setCells]; exact (h j hj).2⟩
  have h9 := h.put f' j _ (by rw [Array.getElem?_toList]; exact arrC_at f' hj)
  rw [Nat.zero_add] at h9; exact h9
theorem atN_has (at_ : Nat → Option Nat) (b : Nat) : (0 ≤ atN at_ b ↔ (at_ b).isSome = true) := by
  unfold atN
  cases at_ b with
  | none => simp
  | some i => simp
set_option maxHeartbeats 4000000 in
theorem rrank_ok (CL : ClearOk) (k : Nat) (v : Value) (len : Nat) (s : Nat → Nat) (w : World) (hv : IntsAt w v len (fun i => (s i : Int))) (h : len ≤ 60) (hk : 1 ≤ k) (hk2 : k ≤ 16) (hs : ∀ j, j < len → 1 ≤ s j ∧ s j ≤ 10000) :
    Calls Tryd.prog 6 #[.int .i64 k, v] w fun e w' => ∃ r : Nat, e = .returned (.int .i64 (r : Nat)) ∧ Dim (Sp XN (masksD k s len)) r ∧ Below w.heap.size w w' := by
  have CLR := hide CL
  obtain ⟨a, cap, rfl, h0⟩ := hv.open
  have H0 := hide h0
  have HS := hide hs
  obtain ⟨i0, hi0, hz0, hz1, hz2⟩ := info_parts Tryd.infoLine
  have Hi := hide hi0
  have Hz0 := hide hz0
  have Hz1 := hide hz1
  have Hz2 := hide hz2
  clear hs hv h0 hi0 hz0 hz1 hz2 CL
  go_enter Tryd.func6, Tryd.ntmps6
  go_wp2_with fail
  go_loopw [5, 6] (fun vo i wr => ∃ (j : Nat) (ao : Option Addr) (co : Nat), j ≤ len ∧ i = .int .i64 j ∧ vo = .slice ao j co ∧ (j = 0 → vo = .slice none 0 0) ∧ wr.ownsRow w.heap.size 46 17 vo j (lcells (fun i => maskL (setL k (s i))) (fun _ => ⟨#[]⟩) j) ∧ Below w.heap.size w wr) (fun _ i _ => len - (intOf i).toNat)
  case atStart => exact ⟨0, none, 0, Nat.zero_le _, rfl, rfl, fun _ => rfl, World.ownsRow_nil _ _ _ _, Below.refl _ _⟩
  case round =>
    obtain ⟨j, ao, co, hj, rfl, rfl, hnil, hrow, hb⟩ := hrel
    have HRow := hide hrow
    have HNil := hide hnil
    have HB := hide hb
    clear hrow hnil hb
    by_cases hlt : j < len
    · obtain ⟨bb, o, ha, hc1, hc2, hc⟩ := H0.out (by omega)
      subst ha
      have hcj : wr.cell? ⟨bb, o + j, none⟩ = some (.int .i64 (s j : Nat)) := cell_below HB.out (hc j hlt)
      have hsj := HS.out j hlt
      have RS := hide (fun W => rset_ok k (s j) W hk hk2 hsj.1 hsj.2)
      have RO : Hid (∀ W v, Lst W v (setL k (s j)) → Calls Tryd.prog 13 #[v, .string ⟨#[]⟩] W fun e w' => e = .returned (.agg (linC (maskL (setL k (s j))).testBit ⟨#[]⟩)) ∧ Below W.heap.size W w') := fun W v hv => rof_ok _ v _ W hv (setL16 hk hk2 hsj.1) (setL_few hk hk2 hsj.1 hsj.2)
      have HNext : Hid (lcells (fun i => maskL (setL k (s i))) (fun _ => ⟨#[]⟩) (j + 1) = lcells (fun i => maskL (setL k (s i))) (fun _ => ⟨#[]⟩) j ++ (linC (maskL (setL k (s j))).testBit ⟨#[]⟩).toList) := lcells_succ _ _ _
      unfold maxLen at hc2
      clear hc
      generalize hxs : s j = x at *
      generalize hcc : linC (maskL (setL k x)).testBit ⟨#[]⟩ = cc at *
      have HC1 : Hid (cc.size = 17) := by rw [Hid, ← hcc]; rfl
      have HC2 : Hid (cc.all (·.oneCell') = true) := by rw [Hid, ← hcc]; exact linC_one _ _
      have HCC := hide hcc
      have hfill : Array.foldl (fun (cs : Array Value) (x : Value × Nat) => cs.setIfInBounds x.snd x.fst) #[.bool false, .bool false, .bool false, .bool false, .bool false, .bool false, .bool false, .bool false, .bool false, .bool false, .bool false, .bool false, .bool false, .bool false, .bool false, .bool false, .string ⟨#[]⟩] cc.zipIdx 0 17 = cc := by rw [← hcc]; exact fill_lin _ _
      have hcs : cc.size = 17 := HC1.out
      clear hxs hcc
      go_wp2_with fail
      refine (RS.out _).mono ?_
      rintro e w1 ⟨vs, rfl, hl1, hb1⟩
      have RO1 := hide (RO.out w1 vs hl1)
      have HB1 := hide (below_two HB.out hb1)
      have HRow1 := hide (ownU HRow.out hb1)
      clear hl1 hb1 RS RO hcj
      go_wp2_with fail
      refine (RO1.out).mono ?_
      rintro e w2 ⟨rfl, hb2⟩
      have HB2 := hide (below_two HB1.out hb2)
      have HRow2 := hide (ownU HRow1.out hb2)
      clear hb2 RO1
      have hL0 := linF_new w2 (fun _ => false) ⟨#[]⟩ 46
      have HTh := hide hL0.there
      have HPut : Hid ((((w2.alloc (.cells (linC (fun _ => false) ⟨#[]⟩) 46)).setCells w2.heap.size 0 cc.toList)).rangeAt w2.heap.size 0 cc.toList) := World.rangeAt_setCells_same _ _ _ _ (by rw [Array.length_toList, HC1.out]; exact HTh.out)
      have HBa := hide (below_two HB2.out ((Below.refl w2.heap.size w2).alloc (Nat.le_refl _) (.cells (linC (fun _ => false) ⟨#[]⟩) 46)))
      have HBs : Hid (Below w2.heap.size w2 ((w2.alloc (.cells (linC (fun _ => false) ⟨#[]⟩) 46)).setCells w2.heap.size 0 cc.toList)) := sets_below (Nat.le_refl _) _ _ _ ((Below.refl w2.heap.size w2).alloc (Nat.le_refl _) _)
      have HRow3 := hide (ownU HRow2.out HBs.out)
      have HB3 := hide (below_two HB2.out HBs.out)
      obtain ⟨W3, hW3⟩ : ∃ W3, W3 = (w2.alloc (.cells (linC (fun _ => false) ⟨#[]⟩) 46)).setCells w2.heap.size 0 cc.toList := ⟨_, rfl⟩
      rw [← hW3] at HRow3 HB3 HPut
      have hsz3 : w.heap.size ≤ W3.heap.size := HB3.out.size
      have HW3 := hide hW3
      clear hW3 hL0
      go_wp2_with (first
        | (refine wpList_store_mid rfl 46 _ _ rfl w2.heap.size 0 cc rfl rfl (by rw [HC1.out]; exact HTh.out) (by rw [HC1.out]; exact Tryd.sizeLine) HC2.out ?_; have hgen := HW3.out; unfold linC at hgen; rw [← hgen]; clear hgen)
        | (refine wpList_load_mid rfl 46 _ rfl w2.heap.size 0 rfl cc.toList _ HPut.out Tryd.underlying46 rfl (by rw [Array.length_toList, HC1.out]; exact Tryd.sizeLine) ?_)
        | (at_builtin; refine wpList_append_lies _ rfl _ _ 43 rfl w.heap.size 46 i0 (.agg (linC (fun _ => false) ⟨#[]⟩)) 17 32 Tryd.underlying43 Hi.out Hz0.out Hz1.out Hz2.out rfl (by decide) _ _ _ rfl (HRow3.out.alloc _) ⟨W3.heap.size, 0, none⟩ 1 1 cc.toList rfl (by rw [Array.length_toList, HC1.out]) (World.news_of_block (cs := cc) (t := 46) (fr := (0, 0)) (heap_alloc_new W3 _)) (fun u hu => (Array.all_eq_true_iff_forall_mem.1 HC2.out) u (by simpa using hu)) (by decide) (by unfold maxLen; omega) (by omega) (by simp; omega) _ rfl ?_; intro g4 cap4 w4 hown4 hgrow4 hat4 hlt4))
      refine ⟨⟨j + 1, some ⟨g4, 0, none⟩, cap4, by omega, by simp, rfl, fun h => by omega, ?_, ?_⟩, by simp [intOf]; omega⟩
      · rw [HNext.out]; exact hown4
      · exact (below_two HB3.out ((Below.refl _ _).alloc (Nat.le_refl _) _)).grown hgrow4 (by simp; omega) (fun q hq => (HRow.out.lt q hq).1)
    · obtain rfl : j = len := by omega
      have hln := own_lnsAt HRow.out HNil.out
      have C1 := hide (CLR.out k 0 j (.slice ao j co) _ _ wr hk hk2 (by omega) (by omega) hln (fun i hi => setL_mask hk (HS.out i hi).1) (fun _ _ => rfl))
      clear hln HRow HNil CLR
      go_wp2_with fail
      refine (C1.out).mono ?_
      rintro e w3 ⟨a3, c3, m, d, at_, us, rfl, hClr, hno, hsz, hln3, hb3⟩
      have HB3 := hide (below_two HB.out hb3)
      have HDim : Hid (Dim (Sp XN (masksD k s j)) (cntB (fun b => (at_ b).isSome) k)) := by
        have h9 := hClr.cleared.dim
        have e9 : ((List.range j).map fun i => rv (maskL (setL k (s i))) (⟨#[]⟩ : ByteArray)).map Prod.fst = masksD k s j := by unfold masksD; rw [List.map_map]; rfl
        rw [e9] at h9
        exact h9
      clear hClr hno hsz hln3 hb3 C1
      have hA0 := arrI_new w3 0 49
      have HTh := hide hA0.there
      have HA1 := hide (hA0.stored (atN at_))
      have HB4 : Hid (Below w.heap.size w ((w3.alloc (.cells (Array.replicate 16 (.int .i64 0)) 49)).setCells w3.heap.size 0 (arrC (atN at_)).toList)) := sets_below HB3.out.size _ _ _ (below_two HB3.out ((Below.refl w3.heap.size w3).alloc (Nat.le_refl _) _))
      generalize hW4 : (w3.alloc (.cells (Array.replicate 16 (.int .i64 0)) 49)).setCells w3.heap.size 0 (arrC (atN at_)).toList = W4 at *
      have HW4 := hide hW4
      clear hA0 hW4
      go_wp2_with (refine wpList_store_mid rfl 49 _ _ rfl w3.heap.size 0 (arrC (atN at_)) rfl rfl HTh.out Tryd.sizeArr (arrC_one _) ?_; (show wpList _ _ _ _ _ ((w3.alloc (.cells (Array.replicate 16 (.int .i64 0)) 49)).setCells w3.heap.size 0 (arrC (atN at_)).toList)); rw [HW4.out])
      go_loopw [10, 11] (fun t i wr => ∃ b : Nat, b ≤ k ∧ i = .int .i64 b ∧ t = .int .i64 (cntB (fun b => (at_ b).isSome) b : Nat) ∧ W4 = wr) (fun _ i _ => k - (intOf i).toNat)
      case atStart => exact ⟨0, Nat.zero_le _, rfl, rfl, rfl⟩
      case round =>
        obtain ⟨b, hb, rfl, rfl, hw⟩ := hrel
        subst hw
        have hle := cntB_le (fun b => (at_ b).isSome) b
        by_cases hlt : b < k
        · have cb := (HA1.out b (by omega)).1
          have HSu := hide (cntB_succ (fun b => (at_ b).isSome) b)
          have HAt := hide (atN_has at_ b)
          generalize cntB (fun b => (at_ b).isSome) b = q at *
          generalize atN at_ b = x at *
          by_cases hx : 0 ≤ x
          · have HEq : Hid (cntB (fun b => (at_ b).isSome) (b + 1) = q + 1) := by rw [Hid, HSu.out, if_pos (HAt.out.1 hx)]
            go_wp2
            go_roundw
            case rel => exact ⟨b + 1, by omega, by go_num, by rw [HEq.out]; simp, by first | rfl | trivial⟩
            case measure => simp [intOf]; omega
          · have HEq : Hid (cntB (fun b => (at_ b).isSome) (b + 1) = q) := by rw [Hid, HSu.out, if_neg (fun h => hx (HAt.out.2 h))]; rfl
            go_wp2
            go_roundw
            case rel => exact ⟨b + 1, by omega, by go_num, by rw [HEq.out], by first | rfl | trivial⟩
            case measure => simp [intOf]; omega
        · obtain rfl : b = k := by omega
          go_wp2
          go_ret
          exact ⟨_, rfl, HDim.out, HB4.out⟩
end Go.Proofs.YtldjbampimbaeaaDoor
