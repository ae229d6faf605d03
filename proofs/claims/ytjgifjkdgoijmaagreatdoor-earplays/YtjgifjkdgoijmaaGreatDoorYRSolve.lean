/-
  Lemmas for the law above, joined into one text (RSolve). No statement is proved here.
-/
import Derived.Test.YtjgifjkdgoijmaaGreatDoorYG35
import Derived.Test.YtjgifjkdgoijmaaGreatDoorYG36
namespace Go.Proofs.YtjgifjkdgoijmaaGreatDoor
open Go.RowKit
set_option linter.unusedVariables false
set_option maxRecDepth 100000

/-- Lines that are built, j of them. -/
def Built (w : World) (k : Nat) (s : Nat → Nat) (d : Nat → ByteArray) (j : Nat) (vo : Value) (wr : World) : Prop :=
  ∃ (ao : Option Addr) (co : Nat), vo = .slice ao j co ∧ (j = 0 → vo = .slice none 0 0) ∧ wr.ownsRow w.heap.size 101 17 vo j (lcells (fun i => maskL (setL k (s i))) d j) ∧ Below w.heap.size w wr
/-- Those found, among the first places. -/
def Outs (W4 : World) (at_ : Nat → Option Nat) (d : Nat → ByteArray) (b : Nat) (fw ow : Value) (wr : World) : Prop :=
  fw = .bool (fewB at_ b) ∧ wr.ownsRow W4.heap.size 9 1 ow (outL at_ d b).length ((outL at_ d b).map .string) ∧ Below W4.heap.size W4 wr
theorem ne_toList {a b : ByteArray} (h : a ≠ b) : (a.toList == b.toList) = false := by
  rw [beq_eq_false_iff_ne, ByteArray.toList_eq, ByteArray.toList_eq]
  exact fun e => h (bytes_of_list' e)
set_option maxHeartbeats 4000000 in
theorem rsolve_ok (CL : ClearOk) (k n : Nat) (v : Value) (len : Nat) (s : Nat → Nat) (d : Nat → ByteArray) (w : World) (hv : DropsAt w v len (fun i => (s i : Int)) d) (hf : fC k n len (fun i => (s i : Int)) d = 0) :
    Calls Tryz.prog 51 #[.int .i64 k, .int .i64 n, v] w fun e w' => RSolved (rowsD k s d len) k n e w' ∧ Below w.heap.size w w' := by
  have CLR := hide CL
  have hl : ¬ 60 < len := fun h => by unfold fC at hf; rw [if_pos h] at hf; cases hf
  have hkz : (1 ≤ (k : Int) ∧ (k : Int) ≤ 16) ∧ 1 ≤ (n : Int) ∧ (n : Int) ≤ 8 := Classical.byContradiction fun h => by unfold fC at hf; rw [if_neg hl, if_neg h] at hf; cases hf
  have hfd : ∀ i, i < len → fD k n (s i : Int) (d i).size = 0 := fun i hi => by
    unfold fC at hf
    rw [if_neg hl, if_pos hkz] at hf
    exact firstF_none hf i hi
  have hs : ∀ i, i < len → 1 ≤ s i ∧ s i ≤ 10000 ∧ (d i).size = n := fun i hi => by
    have h9 := hfd i hi
    unfold fD at h9
    by_cases c : OkD k n (s i : Int)
    · rw [if_pos c] at h9
      by_cases c2 : ((d i).size : Int) = (n : Int)
      · have := c.2.2; omega
      · simp only [if_neg c2] at h9; cases h9
    · simp only [if_neg c] at h9; cases h9
  obtain ⟨a, cap, rfl, h0⟩ := hv.open
  have H0 := hide h0
  have HFD := hide hfd
  have HS := hide hs
  have h60 : len ≤ 60 := by omega
  have hk1 : 1 ≤ k := by omega
  have hk2 : k ≤ 16 := by omega
  have hn1 : 1 ≤ n := by omega
  have hn8 : n ≤ 8 := by omega
  have g0 : ¬ (k : Int) < 1 := by omega
  have g1 : ¬ 16 < (k : Int) := by omega
  have g2 : ¬ (n : Int) < 1 := by omega
  have g3 : ¬ 8 < (n : Int) := by omega
  obtain ⟨i0, hi0, hz0, hz1, hz2⟩ := info_parts Tryz.infoLine
  have Hi := hide hi0
  have Hz0 := hide hz0
  have Hz1 := hide hz1
  have Hz2 := hide hz2
  obtain ⟨j0, hj0, hy0, hy1, hy2⟩ := info_parts Tryz.infoStr
  have Ji := hide hj0
  have Jz0 := hide hy0
  have Jz1 := hide hy1
  have Jz2 := hide hy2
  clear hv hf hl hkz hfd hs h0 hi0 hz0 hz1 hz2 hj0 hy0 hy1 hy2 CL
  go_enter Tryz.func51, Tryz.ntmps51
  go_wp2_with fail
  go_loopw [8] (fun i wr => ∃ j : Nat, j ≤ len ∧ i = .int .i64 j ∧ Below w.heap.size w wr) (fun i _ => len - (intOf i).toNat)
  case atStart => exact ⟨0, Nat.zero_le _, rfl, Below.refl _ _⟩
  case round =>
    obtain ⟨j, hj, rfl, hb⟩ := hrel
    have HB := hide hb
    clear hb
    by_cases hlt : j < len
    · obtain ⟨bb, o, ha, hc1, hc2, hc⟩ := H0.out (by omega)
      subst ha
      obtain ⟨q0, q1, _, _⟩ := hc j hlt
      have c0' := cell_below HB.out q0
      have c1' := cell_below HB.out q1
      have hD0 := fun W => rdrop_lit k n (s j : Int) (d j) W
      rw [HFD.out j hlt] at hD0
      have HD := hide hD0
      unfold maxLen at hc2
      clear hc q0 q1 hD0
      generalize s j = sj at *
      generalize d j = dj at *
      go_wp2_with fail
      refine (HD.out _).mono ?_
      rintro e w2 ⟨rfl, hb2⟩
      have HB2 := hide (below_two HB.out hb2)
      clear hb2 c0' c1' HD
      go_wp2
      go_roundw
      case rel => exact ⟨j + 1, by omega, by go_num, HB2.out⟩
      case measure => simp [intOf]; omega
    · obtain rfl : j = len := by omega
      clear HFD
      go_wp2_with fail
      go_loopw [10, 11] (fun vo i wr => ∃ j2 : Nat, j2 ≤ j ∧ i = .int .i64 j2 ∧ Built w k s d j2 vo wr) (fun _ i _ => j - (intOf i).toNat)
      case atStart => exact ⟨0, Nat.zero_le _, rfl, none, 0, rfl, fun _ => rfl, World.ownsRow_nil _ _ _ _, HB.out⟩
      case round =>
        obtain ⟨j2, hj2, rfl, ao, co, rfl, hnil, hrow, hb⟩ := hrel
        have HRow := hide hrow
        have HNil := hide hnil
        have HB1 := hide hb
        clear hrow hnil hb HB hlt
        by_cases hlt : j2 < j
        · obtain ⟨bb, o, ha, hc1, hc2, hc⟩ := H0.out (by omega)
          subst ha
          obtain ⟨q0, q1, _, _⟩ := hc j2 hlt
          have C0 := hide (cell_below HB1.out q0)
          have C1 := hide (cell_below HB1.out q1)
          have hsj := HS.out j2 hlt
          have RS := hide (fun W => rset_ok k (s j2) W hk1 hk2 hsj.1 hsj.2.1)
          have RO : Hid (∀ W v, Lst W v (setL k (s j2)) → Calls Tryz.prog 48 #[v, .string (d j2)] W fun e w' => e = .returned (.agg (linC (maskL (setL k (s j2))).testBit (d j2))) ∧ Below W.heap.size W w') := fun W v hv => rof_ok _ v _ W hv (setL16 hk1 hk2 hsj.1) (setL_few hk1 hk2 hsj.1 hsj.2.1)
          have HNext : Hid (lcells (fun i => maskL (setL k (s i))) d (j2 + 1) = lcells (fun i => maskL (setL k (s i))) d j2 ++ (linC (maskL (setL k (s j2))).testBit (d j2)).toList) := lcells_succ _ _ _
          unfold maxLen at hc2
          have HC1 : Hid ((linC (maskL (setL k (s j2))).testBit (d j2)).size = 17) := rfl
          have HC2 : Hid ((linC (maskL (setL k (s j2))).testBit (d j2)).all (·.oneCell') = true) := linC_one _ _
          have hfill : Array.foldl (fun (cs : Array Value) (x : Value × Nat) => cs.setIfInBounds x.snd x.fst) #[.bool false, .bool false, .bool false, .bool false, .bool false, .bool false, .bool false, .bool false, .bool false, .bool false, .bool false, .bool false, .bool false, .bool false, .bool false, .bool false, .string ⟨#[]⟩] (linC (maskL (setL k (s j2))).testBit (d j2)).zipIdx 0 17 = linC (maskL (setL k (s j2))).testBit (d j2) := fill_lin _ _
          have HLst : Hid (∀ W W' v, Lst W v (setL k (s j2)) → Below W.heap.size W W' → Lst W' v (setL k (s j2))) := fun _ _ _ h hb => h.below hb
          clear hc q0 q1 hsj
          generalize hcc : linC (maskL (setL k (s j2))).testBit (d j2) = cc at *
          have hcs : cc.size = 17 := HC1.out
          clear hcc
          go_upto_region 15 with fail
          refine regionS bb o j cap j2 k (s j2) (d j2) cc (fun W v => Lst W v (setL k (s j2))) rfl rfl rfl rfl hlt h60 C0.out C1.out HC1.out HC2.out HLst.out RS.out RO.out (fun _ _ _ _ _ h => h) ?_
          intro W3 vs x hb3 hx hx3 hrg
          have HB3 := hide (below_two HB1.out hb3)
          have HRow3 := hide (ownU HRow.out hb3)
          have HPut := hide hrg
          have hsz3 : w.heap.size ≤ W3.heap.size := HB3.out.size
          clear hrg hb3 RS RO C0 C1 HLst
          simp only [Act.put]
          go_wp2_with (first
            | (refine wpList_load_mid rfl 101 _ rfl x 0 rfl cc.toList _ HPut.out Tryz.underlying101 rfl (by rw [Array.length_toList, HC1.out]; exact Tryz.sizeLine) ?_)
            | (at_builtin; refine wpList_append_lies _ rfl _ _ 99 rfl w.heap.size 101 i0 (.agg (linC (fun _ => false) ⟨#[]⟩)) 17 32 Tryz.underlying99 Hi.out Hz0.out Hz1.out Hz2.out rfl (by decide) _ _ _ rfl (HRow3.out.alloc _) ⟨W3.heap.size, 0, none⟩ 1 1 cc.toList rfl (by rw [Array.length_toList, HC1.out]) (World.news_of_block (cs := cc) (t := 101) (fr := (0, 0)) (heap_alloc_new W3 _)) (fun u hu => (Array.all_eq_true_iff_forall_mem.1 HC2.out) u (by simpa using hu)) (by decide) (by unfold maxLen; omega) (by omega) (by simp; omega) _ rfl ?_; intro g4 cap4 w4 hown4 hgrow4 hat4 hlt4))
          refine ⟨⟨j2 + 1, by omega, by simp, some ⟨g4, 0, none⟩, cap4, rfl, fun h => by omega, ?_, ?_⟩, by simp [intOf]; omega⟩
          · rw [HNext.out]; exact hown4
          · exact (below_two HB3.out ((Below.refl _ _).alloc (Nat.le_refl _) _)).grown hgrow4 (by simp; omega) (fun q hq => (HRow.out.lt q hq).1)
        · obtain rfl : j2 = j := by omega
          have hln := own_lnsAt HRow.out HNil.out
          have C1 := hide (CLR.out k n j2 (.slice ao j2 co) _ _ wr hk1 hk2 hn8 h60 hln (fun i hi => setL_mask hk1 (HS.out i hi).1) (fun i hi => (HS.out i hi).2.2))
          clear hln HRow HNil CLR H0 HS hj2 hlt
          go_wp2_with fail
          refine (C1.out).mono ?_
          rintro e w3 ⟨a3, c3, m, d', at_, us, rfl, hClr, hno, hsz, hln3, hb3⟩
          have HB3 := hide (below_two HB1.out hb3)
          have HClr : Hid (Clr (rowsD k s d j2) k j2 k (fun i => rv (m i) (d' i)) at_ us) := hClr
          have HSz := hide hsz
          clear hClr hno hsz hb3 C1 HB1
          have hA0 := arrI_new w3 0 104
          have HTh := hide hA0.there
          have HA1 := hide (hA0.stored (atN at_))
          have hb4 : Below w3.heap.size w3 ((w3.alloc (.cells (Array.replicate 16 (.int .i64 0)) 104)).setCells w3.heap.size 0 (arrC (atN at_)).toList) := sets_below (Nat.le_refl _) _ _ _ ((Below.refl w3.heap.size w3).alloc (Nat.le_refl _) _)
          have HB4 := hide (below_two HB3.out hb4)
          have HLn : Hid (0 < j2 → ∃ g, a3 = some ⟨g, 0, none⟩ ∧ j2 ≤ c3 ∧ c3 ≤ maxLen ∧ Lns ((w3.alloc (.cells (Array.replicate 16 (.int .i64 0)) 104)).setCells w3.heap.size 0 (arrC (atN at_)).toList) g j2 m d') := fun h0 => by
            obtain ⟨g, e1, e2, e3, e4⟩ := hln3 h0
            exact ⟨g, e1, e2, e3, e4.below hb4⟩
          generalize hW4 : (w3.alloc (.cells (Array.replicate 16 (.int .i64 0)) 104)).setCells w3.heap.size 0 (arrC (atN at_)).toList = W4 at *
          have HW4 := hide hW4
          clear hA0 hW4 hb4 hln3
          go_wp2_with (refine wpList_store_mid rfl 104 _ _ rfl w3.heap.size 0 (arrC (atN at_)) rfl rfl HTh.out Tryz.sizeArr (arrC_one _) ?_; (show wpList _ _ _ _ _ ((w3.alloc (.cells (Array.replicate 16 (.int .i64 0)) 104)).setCells w3.heap.size 0 (arrC (atN at_)).toList)); rw [HW4.out])
          clear HTh HW4 HB3
          generalize w3.heap.size = ga at *
          go_loopw [15, 16, 17] (fun fw ow i wr => ∃ b : Nat, b ≤ k ∧ i = .int .i64 b ∧ Outs W4 at_ d' b fw ow wr) (fun _ _ i _ => k - (intOf i).toNat)
          case atStart => exact ⟨0, Nat.zero_le _, rfl, rfl, World.ownsRow_nil _ _ _ _, Below.refl _ _⟩
          case round =>
            obtain ⟨b, hb, rfl, rfl, hown, hbw⟩ := hrel
            have HO := hide hown
            have HBW := hide hbw
            have hol := outL_len_le at_ d' b
            clear hown hbw
            by_cases hlt : b < k
            · have cb := cell_below HBW.out (HA1.out b (by omega)).1
              have HSf : Hid (fewB at_ (b + 1) = (fewB at_ b || (at_ b).isNone)) := rfl
              have HSo : Hid (outL at_ d' (b + 1) = outL at_ d' b ++ (match at_ b with | none => [] | some i => [d' i])) := rfl
              cases hat : at_ b with
              | none =>
                have e9 : atN at_ b = -1 := by unfold atN; rw [hat]
                rw [e9] at cb
                rw [hat] at HSf HSo
                have HGo : Hid (∀ t, t = Value.bool true → Outs W4 at_ d' (b + 1) t u16 wr) := fun t ht => by
                  refine ⟨by rw [ht, HSf.out]; simp, ?_, HBW.out⟩
                  rw [HSo.out, List.append_nil]; exact HO.out
                clear e9 hat HSf HSo hol
                go_wp2
                go_roundw
                case rel => exact ⟨b + 1, by omega, by go_num, HGo.out _ rfl⟩
                case measure => simp [intOf]; omega
              | some i =>
                have e9 : atN at_ b = (i : Int) := by unfold atN; rw [hat]
                rw [e9] at cb
                rw [hat] at HSf HSo
                have hiN : i < j2 := (HClr.out.found b hlt i hat).1
                obtain ⟨g, ha3, hq1, hq2, hL⟩ := HLn.out (by omega)
                subst ha3
                have cd := cell_below HBW.out (hL i hiN).2.1
                have hi0' : ¬ (i : Int) < 0 := by omega
                have hiI : (i : Int) < (j2 : Int) := by omega
                unfold maxLen at hq2
                have hszw : W4.heap.size ≤ wr.heap.size := HBW.out.size
                have HSo2 : Hid (outL at_ d' (b + 1) = outL at_ d' b ++ [d' i]) := HSo.out
                clear e9 hat hL HSo
                generalize d' i = di at *
                go_wp2_with (at_builtin; refine wpList_append_own _ rfl _ _ 37 rfl W4.heap.size 9 j0 (.string ⟨#[]⟩) 1 16 Tryz.underlying37 Ji.out Jz0.out Jz1.out Jz2.out rfl (by decide) _ _ _ rfl (HO.out.alloc _) ⟨wr.heap.size, 0, none⟩ 1 1 [.string di] rfl rfl (cell_one_new _ _ _) (fun x hx => by simp at hx; subst hx; rfl) (by unfold maxLen; omega) (by omega) (by simp; omega) ?_; intro v5 w5 hown5 hgrow5 hnil5)
                go_roundw
                case rel =>
                  refine ⟨b + 1, by omega, by go_num, by rw [HSf.out]; simp, ?_, ?_⟩
                  · rw [HSo2.out, List.length_append, List.map_append]; exact hown5
                  · exact (below_two HBW.out ((Below.refl _ _).alloc (Nat.le_refl _) _)).grown hgrow5 (by simp; omega) (fun q hq => (HO.out.lt q hq).1)
                case measure => simp [intOf]; omega
            · obtain rfl : b = k := by omega
              have HLn5 : Hid (0 < j2 → ∃ g, a3 = some ⟨g, 0, none⟩ ∧ j2 ≤ c3 ∧ c3 ≤ maxLen ∧ Lns wr g j2 m d') := fun h0 => by
                obtain ⟨g, e1, e2, e3, e4⟩ := HLn.out h0
                exact ⟨g, e1, e2, e3, e4.below HBW.out⟩
              have HB5 := hide (below_two HB4.out HBW.out)
              clear HLn HBW HB4 HA1 hol hlt hb
              generalize hfw : fewB at_ b = fw at *
              have HFw := hide hfw
              clear hfw
              generalize wr = W5 at *
              go_wp2_with fail
              go_loopw [18] (fun i wr => ∃ q : Nat, q ≤ j2 ∧ i = .int .i64 q ∧ (∀ p, p < q → m p = 0 → d' p = zerosB n) ∧ Below W5.heap.size W5 wr) (fun i _ => j2 - (intOf i).toNat)
              case atStart => exact ⟨0, Nat.zero_le _, rfl, (fun p hp => absurd hp (Nat.not_lt_zero _)), Below.refl _ _⟩
              case round =>
                obtain ⟨q, hq, rfl, hall, hbr⟩ := hrel
                have HAll := hide hall
                have HBr := hide hbr
                clear hall hbr
                by_cases hlt : q < j2
                · obtain ⟨g, ha3, hq1, hq2, hL⟩ := HLn5.out (by omega)
                  subst ha3
                  have HLq := hide ((hL q hlt).below HBr.out)
                  unfold maxLen at hq2
                  clear hL
                  have hqI : (q : Int) < (j2 : Int) := by omega
                  have hmk : m q < 2 ^ b := HClr.out.lt q hlt
                  have HMk := hide hmk
                  generalize wr = W6 at *
                  clear hmk
                  go_wp2_with fail
                  go_loopw [19, 20] (fun nn i wr => ∃ c : Nat, c ≤ b ∧ i = .int .i64 c ∧ nn = .bool (noneB (m q) c) ∧ W6 = wr) (fun _ i _ => b - (intOf i).toNat)
                  case atStart => exact ⟨0, Nat.zero_le _, rfl, rfl, rfl⟩
                  case round =>
                    obtain ⟨c, hc, rfl, rfl, hwr⟩ := hrel
                    subst hwr
                    by_cases hlt2 : c < b
                    · have cc := (HLq.out.1 c (by omega)).1
                      have HSn : Hid (noneB (m q) (c + 1) = (noneB (m q) c && !(m q).testBit c)) := rfl
                      have hcI : (c : Int) < 16 := by omega
                      generalize (m q).testBit c = tb at *
                      cases hnb : noneB (m q) c with
                      | true =>
                        rw [hnb] at HSn
                        clear hnb
                        go_wp2
                        go_roundw
                        case rel => exact ⟨c + 1, by omega, by go_num, by rw [HSn.out]; simp, by first | rfl | trivial⟩
                        case measure => simp [intOf]; omega
                      | false =>
                        rw [hnb] at HSn
                        clear hnb
                        go_wp2
                        go_roundw
                        case rel => exact ⟨c + 1, by omega, by go_num, by rw [HSn.out]; simp, by first | rfl | trivial⟩
                        case measure => simp [intOf]; omega
                    · obtain rfl : c = b := by omega
                      have HNz := hide (noneB_zero HMk.out)
                      cases hnb : noneB (m q) c with
                      | false =>
                        have HNo : Hid (m q ≠ 0) := fun h => by have := HNz.out.2 h; rw [hnb] at this; cases this
                        clear hnb
                        go_wp2_with fail
                        go_quiet (fail)
                        go_wp2
                        go_roundw
                        case rel => exact ⟨q + 1, by omega, by go_num, (fun p hp h0 => by
                          by_cases e : p = q
                          · rw [e] at h0; exact absurd h0 HNo.out
                          · exact HAll.out p (by omega) h0), below_drewN HBr.out _⟩
                        case measure => simp [intOf]; omega
                      | true =>
                        have HYes : Hid (m q = 0) := HNz.out.1 hnb
                        have cd := HLq.out.2.1
                        have HZ : Hid (∀ x : Nat, Calls Tryz.prog 86 #[.int .i64 n] (W6.drewN x) fun e w' => e = .returned (.string (zerosB n)) ∧ w' = W6.drewN x) := fun x => (zero_any n _ (by omega)).mono fun e w' ⟨h1, h2⟩ => ⟨h1, h2.symm⟩
                        have HClr' := hide (fun h : d' q ≠ zerosB n => (HClr.out.clash HSz.out).2 ⟨q, hlt, HYes.out, h⟩)
                        clear hnb HNz
                        have HGo : Hid (d' q = zerosB n → ∀ p, p < q + 1 → m p = 0 → d' p = zerosB n) := fun h p hp h0 => by
                          by_cases e : p = q
                          · rw [e]; exact h
                          · exact HAll.out p (by omega) h0
                        generalize d' q = dq at *
                        generalize hzq : zerosB n = zz at *
                        have HZq := hide hzq
                        clear hzq
                        by_cases hzz : dq = zz
                        · have hb9 : (dq.toList == zz.toList) = true := by rw [hzz]; simp
                          have HGo2 := hide (HGo.out hzz)
                          clear HGo HClr' hzz
                          go_wp2_with fail
                          go_quiet ((go_at_call 86; exact Calls.quiet_of_same (HZ.out _)))
                          go_wp2
                          go_roundw
                          case rel => exact ⟨q + 1, by omega, by go_num, by rw [HZq.out]; exact HGo2.out, below_drewN HBr.out _⟩
                          case measure => simp [intOf]; omega
                        · have hb9 : (dq.toList == zz.toList) = false := ne_toList hzz
                          have HC9 := hide (HClr'.out hzz)
                          clear HGo HClr' hzz
                          go_wp2_with fail
                          go_quiet ((go_at_call 86; exact Calls.quiet_of_same (HZ.out _)))
                          go_wp2
                          go_ret2
                          exact ⟨Or.inl ⟨HC9.out, rfl⟩, below_two HB5.out (below_drewN HBr.out _)⟩
                · obtain rfl : q = j2 := by omega
                  have HNC : Hid (¬ Clash (rowsD b s d q)) := fun h => by
                    obtain ⟨i, hi, h1, h2⟩ := (HClr.out.clash HSz.out).1 h
                    exact h2 (HAll.out i hi h1)
                  have HB6 := hide (below_two HB5.out HBr.out)
                  cases fw with
                  | true =>
                    have HFe := hide (HClr.out.few HFw.out)
                    clear HFw HAll
                    go_wp2
                    go_ret2
                    exact ⟨Or.inr (Or.inl ⟨HNC.out, HFe.out, rfl⟩), HB6.out⟩
                  | false =>
                    have HDm := hide (HClr.out.dimAll HFw.out)
                    have HSo := hide (fun p (hp : p < b) => HClr.out.sole HFw.out hp)
                    have HOa := hide (outL_all at_ d' b (fewB_false HFw.out))
                    clear HFw HAll
                    go_wp2
                    go_ret2
                    refine ⟨Or.inr (Or.inr ⟨HNC.out, HDm.out, _, fun p => d' ((at_ p).getD 0), rfl, ?_, fun p hp => ⟨HSz.out _ (HSo.out p hp).1, (HSo.out p hp).2⟩⟩), HB6.out⟩
                    have h9 := (own_strsIn HO.out).below HBr.out
                    rw [HOa.out.1] at h9
                    exact h9.congr HOa.out.2
end Go.Proofs.YtjgifjkdgoijmaaGreatDoor
