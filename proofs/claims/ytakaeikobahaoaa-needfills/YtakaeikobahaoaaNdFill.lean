/-
  The walk of NeedFills over this seat's translation. Lemmas for the law above; no statement is proved here.
-/
import Derived.Test.YtakaeikobahaoaaNdFillN
import Derived.Deep.DeepCutAuto
import Derived.Deep.CutRange
namespace Go.Proofs.Ytakaeikobahaoaa
open Go.RowKit Go.Maps
set_option linter.unusedVariables false
set_option maxRecDepth 100000

theorem ints_one (w : World) (n : Nat) (hn : n ≤ 10000) : IntsAt (w.alloc (.cells #[.int .i64 (n : Nat)] 3)) (.slice (some ⟨w.heap.size, 0, none⟩) 1 1) 1 (fun _ => ((n : Nat) : Int)) := by
  refine Or.inr ⟨by decide, w.heap.size, 0, 1, rfl, Nat.le_refl _, by unfold maxLen; decide, fun i hi => ?_, fun i hi => WalkArith.wf_i64 (by show -9223372036854775808 ≤ ((n : Nat) : Int) ∧ ((n : Nat) : Int) ≤ 9223372036854775807; omega)⟩
  obtain rfl : i = 0 := by omega
  have h9 := cell_one_new w (.int .i64 (n : Nat)) 3 0 _ rfl
  simp only [Addr.add] at h9 ⊢
  exact h9
/-- What is told of three blocks. -/
theorem fact_ok (w : World) : Calls Try.prog 4 #[.int .i64 3, .slice (some ⟨w.heap.size, 0, none⟩) 1 1] (w.alloc (.cells #[.int .i64 2] 3)) fun e w' => ∃ g cap, e = .returned (.tuple #[.slice (some ⟨g, 0, none⟩) 2 cap, .nilIface]) ∧ 2 ≤ cap ∧ cap ≤ maxLen ∧ w'.cell? ⟨g, 0, none⟩ = some (.int .i64 0) ∧ w'.cell? ⟨g, 1, none⟩ = some (.int .i64 2) ∧ Below w.heap.size w w' := by
  refine (lacks_ok 3 _ 1 (fun _ => 2) _ (ints_one w 2 (by omega)) (by omega) (by omega) (by omega) (fun _ _ => by omega)).mono fun e w' ⟨vo, he, ho, hb⟩ => ?_
  rw [fact_lacks] at ho
  obtain ⟨g, cap, rfl, h1, h2, h3⟩ := own_lst (l := [0, 2]) ho (by decide)
  exact ⟨g, cap, he, h1, h2, h3 0 (by decide), h3 1 (by decide), below_two ((Below.refl _ _).alloc (Nat.le_refl _) _) hb⟩
/-- What First tells. -/
def FirstSays (M : Nat → Nat) (n len : Nat) (x : Int) (err : Value) : Prop :=
  (rkL (preL M len) = n ∧ err = .nilIface ∧ ∃ p : Nat, x = (p : Int) + 1 ∧ p < len ∧ rkL (preL M (p + 1)) = n ∧ rkL (preL M p) < n) ∨ (rkL (preL M len) < n ∧ err = .iface 35 (.int .i64 8))
theorem first_says (k : Nat) (v : Value) (len : Nat) (s : Nat → Nat) (w : World) (hv : IntsAt w v len (fun i => (s i : Int))) (h : len ≤ 60) (hk : 1 ≤ k) (hk2 : k ≤ 16) (hs : ∀ j, j < len → 1 ≤ s j ∧ s j ≤ 10000) :
    Calls Try.prog 7 #[.int .i64 k, v] w fun e w' => ∃ (x : Int) (err : Value), e = .returned (.tuple #[.int .i64 x, err]) ∧ FirstSays (mD k s) k len x err ∧ Below w.heap.size w w' := by
  have hl := upL_len [] (mD k s) len
  rw [rkL_none, List.nil_append, Nat.add_zero] at hl
  have hle := rk_le (mD_lt hk hs)
  by_cases c : k ≤ (upL [] (mD k s) len).length
  · exact (first_ok k v len s w hv h hk hk2 hs c).mono fun e w' ⟨p, he, h1, h2, h3, hb⟩ => ⟨_, _, he, Or.inl ⟨by omega, rfl, p, rfl, h1, h2, h3⟩, hb⟩
  · exact (first_few k v len s w hv h hk hk2 hs (by omega)).mono fun e w' ⟨he, hb⟩ => ⟨_, _, he, Or.inr ⟨by omega, rfl⟩, hb⟩
theorem below_of_grown {w w' : World} (h : w.grownBy w' none) : Below w.heap.size w w' := (Below.refl _ _).grown h (Nat.le_refl _) (fun q hq => by cases hq)
/-- Where the lists are made. -/
def FillSt (w : World) (s : Nat → Nat) (len : Nat) (U : List Nat) (wo : Int) (j : Nat) (va vf : Value) (wr : World) : Prop :=
  wr.ownsRow w.heap.size 3 1 va (len + j) (iV (preL s len ++ (U.take j).map (· + 1))) ∧ wr.ownsRow w.heap.size 3 1 vf (len + (fewL wo U j).length) (iV (preL s len ++ fewL wo U j)) ∧ Apart va vf ∧ Below w.heap.size w wr
set_option maxHeartbeats 8000000 in
theorem fills_walk {w : World} (k : Int) (v : Value) (len : Nat) (f : Nat → Int) (hv : IntsAt w v len f) (wo : Int) :
    Calls Try.prog 3 #[.int .i64 k, v, .int .i64 wo] w fun e w' => e = .returned (.bool true) ∧ Below w.heap.size w w' := by
  have F0 := hide (fact_ok w)
  by_cases hf : fS k len f = 0
  · obtain ⟨hl, hk, hs⟩ := fS_ok hf
    obtain ⟨n, rfl⟩ : ∃ n : Nat, k = (n : Nat) := ⟨k.toNat, by omega⟩
    have hn1 : 1 ≤ n := by omega
    have hn2 : n ≤ 16 := by omega
    obtain ⟨s, hse⟩ : ∃ s : Nat → Nat, s = fun i => (f i).toNat := ⟨_, rfl⟩
    have hss : ∀ j, j < len → 1 ≤ s j ∧ s j ≤ 10000 := fun j hj => by have := hs j hj; subst hse; show 1 ≤ (f j).toNat ∧ (f j).toNat ≤ 10000; omega
    have hv2 : IntsAt w v len (fun i => (s i : Int)) := hv.congr fun i hi => by have := hs i hi; subst hse; show f i = ((f i).toNat : Int); omega
    clear hse hs hv hf hk
    obtain ⟨a, cap, rfl, _⟩ := hv2.open
    have hle := rk_le (mD_lt hn1 hss)
    have hll := lack_len (mD_lt hn1 hss)
    have RK : Hid (∀ W m, Below w.heap.size w W → m ≤ len → Calls Try.prog 5 #[.int .i64 n, .slice a m cap] W fun e w' => e = .returned (.tuple #[.int .i64 (rkL (preL (mD n s) m) : Nat), .nilIface]) ∧ Below W.heap.size W w') := fun W m hW hm => by
      refine (rank_ok n _ m s W ((hv2.first hm).below hW) (by omega) hn1 hn2 (fun j hj => hss j (by omega))).mono fun e w' ⟨r, he, hd, _, hb⟩ => ⟨?_, hb⟩
      have e9 := rkL_eq hd
      rw [mD_masks] at e9
      rw [he, e9]
    have NW : Hid (∀ W, Below w.heap.size w W → Calls Try.prog 6 #[.int .i64 n, .slice a len cap] W fun e w' => ∃ ax cx, e = .returned (.tuple #[.slice ax (rkL (preL (mD n s) len)) cx, .nilIface]) ∧ Below W.heap.size W w') := fun W hW => by
      refine (new_ok n _ len s W (hv2.below hW) hl hn1 hn2 hss).mono fun e w' ⟨vo, he, ho, hb⟩ => ?_
      have h9 := upL_len [] (mD n s) len
      rw [rkL_none, List.nil_append, Nat.add_zero] at h9
      rw [h9] at ho
      obtain ⟨ax, cx, rfl⟩ := own_slice ho
      exact ⟨ax, cx, he, hb⟩
    have LK : Hid (∀ W, Below w.heap.size w W → Calls Try.prog 4 #[.int .i64 n, .slice a len cap] W fun e w' => ∃ vo, e = .returned (.tuple #[vo, .nilIface]) ∧ w'.ownsRow W.heap.size 3 1 vo (upL (preL (mD n s) len) unit n).length (iV (upL (preL (mD n s) len) unit n)) ∧ Below W.heap.size W w') := fun W hW => lacks_ok n _ len s W (hv2.below hW) hl hn1 hn2 hss
    have FI : Hid (∀ W, Below w.heap.size w W → Calls Try.prog 7 #[.int .i64 n, .slice a len cap] W fun e w' => ∃ (x : Int) (err : Value), e = .returned (.tuple #[.int .i64 x, err]) ∧ FirstSays (mD n s) n len x err ∧ Below W.heap.size W w') := fun W hW => first_says n _ len s W (hv2.below hW) hl hn1 hn2 hss
    have HU : Hid (∀ u ∈ upL (preL (mD n s) len) unit n, u < n) := fun u hu => upL_lt hu
    have AR : Hid (rkL (mL n (preL s len ++ (upL (preL (mD n s) len) unit n).map (· + 1))) = n) := all_rank hn1 hss
    have FR : Hid (0 ≤ wo → wo < ((upL (preL (mD n s) len) unit n).length : Int) → rkL (mL n (preL s len ++ fewL wo (upL (preL (mD n s) len) unit n) (upL (preL (mD n s) len) unit n).length)) < n) := fun h0 h1 => few_rank hn1 hss h0 h1
    have HV := hide hv2
    have HSS := hide hss
    have HL1 : Hid (∀ p, rkL (preL (mD n s) p) ≤ p) := fun p => by have := rkL_le (preL (mD n s) p); rw [preL_len] at this; exact this
    generalize hUU : upL (preL (mD n s) len) unit n = U at *
    obtain ⟨q, hq⟩ : ∃ q, U.length = q := ⟨_, rfl⟩
    rw [hq] at hll LK FR
    generalize hr : rkL (preL (mD n s) len) = r at *
    have HR := hide hr
    have HQ := hide hq
    obtain ⟨i0, hi0, hz0, hz1, hz2⟩ := info_parts Try.infoInt
    have Hi := hide hi0
    have Hz0 := hide hz0
    have Hz1 := hide hz1
    have Hz2 := hide hz2
    clear hv2 hss hUU hq hi0 hz0 hz1 hz2
    go_enter Try.func3, Try.ntmps3
    go_wp2_with fail
    refine (F0.out).mono ?_
    rintro e w1 ⟨g1, c1, rfl, hc1, hc2, hd0, hd1, hb1⟩
    have HB1 := hide hb1
    unfold maxLen at hc2
    have RK1 := hide (RK.out w1 len hb1 (Nat.le_refl _))
    rw [hr] at RK1
    clear hb1 F0 hr
    go_wp2_with fail
    refine (RK1.out).mono ?_
    rintro e w2 ⟨rfl, hb2⟩
    have HB2 := hide (below_two HB1.out hb2)
    clear hb2 RK1 hd0 hd1
    go_wp2_with fail
    refine (NW.out _ HB2.out).mono ?_
    rintro e w3 ⟨ax, cx, rfl, hb3⟩
    have HB3 := hide (below_two HB2.out hb3)
    clear hb3
    go_wp2_with fail
    refine (LK.out _ HB3.out).mono ?_
    rintro e w4 ⟨vo, rfl, ho4, hb4⟩
    obtain ⟨al, cl, rfl⟩ := own_slice ho4
    have HB4 := hide (below_two HB3.out hb4)
    have HO4 := hide ho4
    clear hb4 ho4
    go_wp2_with fail
    refine (FI.out _ HB4.out).mono ?_
    rintro e w5 ⟨x, err, rfl, hx5, hb5⟩
    have HB5 := hide (below_two HB4.out hb5)
    have HO5 := hide (ownU HO4.out hb5)
    have HX5 := hide hx5
    clear hb5 hx5 HO4
    obtain ⟨b5, hb5⟩ : ∃ b5 : Bool, (b5 = true ↔ r = n) := ⟨decide (r = n), by simp⟩
    have HB55 := hide hb5
    clear hb5
    have hqk : ((q : Int) != (n : Int) - (r : Int)) = false := by
      have e : (q : Int) = (n : Int) - (r : Int) := by omega
      rw [e]; simp
    go_upto_region 10 with fail
    go_cut [101] (fun t wx => t = .bool false ∧ w5 = wx)
    case first =>
      rcases HX5.out with ⟨h1, h2, p, h3, h4, h5, h6⟩ | ⟨h1, h2⟩
      · have h1 : r = n := HR.out.symm.trans h1
        subst h2
        have hrk : ((r : Int) == (n : Int)) = true := by rw [h1]; simp
        clear h1 h3 h4 h5 h6
        go_wp2
        go_meet
        exact ⟨by first | rfl | simp [hrk], rfl⟩
      · have h1 : r < n := by rw [← HR.out]; exact h1
        subst h2
        have hrk : ((r : Int) == (n : Int)) = false := by rw [beq_eq_false_iff_ne]; omega
        clear h1
        go_wp2
        go_meet
        exact ⟨by first | rfl | simp [hrk], rfl⟩
    case rest =>
    obtain ⟨ht1, hw1⟩ := hcut
    subst ht1 hw1
    go_upto_region 12 with fail
    go_cut [103] (fun t wx => t = .bool b5 ∧ w5 = wx)
    case first =>
      rcases HX5.out with ⟨h1, h2, p, h3, h4, h5, h6⟩ | ⟨h1, h2⟩
      · obtain rfl : b5 = true := HB55.out.2 (HR.out.symm.trans h1)
        subst h2
        clear h1 h3 h4 h5 h6
        go_wp2
        go_meet
        exact ⟨rfl, rfl⟩
      · obtain rfl : b5 = false := by
          cases b5 with
          | false => rfl
          | true => have h9 := HB55.out.1 rfl; rw [← HR.out] at h9; omega
        subst h2
        clear h1
        go_wp2
        go_meet
        exact ⟨rfl, rfl⟩
    case rest =>
    obtain ⟨ht1, hw1⟩ := hcut
    subst ht1 hw1
    go_upto_if 103 with fail
    go_cut [17, 18] (fun t17 t18 wx => Below w5.heap.size w5 wx)
    case first =>
      cases b5 with
      | false =>
        clear hqk
        go_wp2
        go_meet
        exact Below.refl _ _
      | true =>
        obtain ⟨h1, h2, p, h3, h4, h5, h6⟩ : rkL (preL (mD n s) len) = n ∧ err = .nilIface ∧ ∃ p : Nat, x = (p : Int) + 1 ∧ p < len ∧ rkL (preL (mD n s) (p + 1)) = n ∧ rkL (preL (mD n s) p) < n := by
          rcases HX5.out with h | ⟨h1, _⟩
          · exact h
          · have h9 := HB55.out.1 rfl; rw [← HR.out] at h9; omega
        subst h3
        obtain ⟨bb, oo, ha, hc3, hc4, _⟩ : ∃ b o, a = some ⟨b, o, none⟩ ∧ len ≤ cap ∧ cap ≤ maxLen ∧ True := by
          rcases HV.out with ⟨e, _⟩ | ⟨_, b, o, c, hvv, h1, h2, _⟩
          · omega
          · injection hvv with ha _ hc
            subst hc
            exact ⟨b, o, ha, h1, h2, trivial⟩
        subst ha
        have h7 := HL1.out (p + 1)
        have KA := hide (fun W hW => RK.out W (p + 1) hW (by omega))
        have KB := hide (fun W hW => RK.out W p hW (by omega))
        rw [h5] at KA h7
        generalize hrp : rkL (preL (mD n s) p) = rp at *
        have e1 : ((p : Int) + 1).toNat = p + 1 := by omega
        have e2 : ((p : Int) + 1 - 1) = (p : Int) := by omega
        unfold maxLen at hc4
        clear h1 h2 h5 hrp RK
        go_wp2_with fail
        refine (KA.out _ HB5.out).mono ?_
        rintro e w6 ⟨rfl, hb6⟩
        have HB6 := hide hb6
        clear hb6
        go_wp2_with fail
        refine (KB.out _ (below_two HB5.out HB6.out)).mono ?_
        rintro e w7 ⟨rfl, hb7⟩
        have HB7 := hide (below_two HB6.out hb7)
        clear hb7
        go_wp2
        go_meet
        exact HB7.out
    case rest =>
    have HB6 := hide (below_two HB5.out hcut)
    have HO6 := hide (ownU HO5.out hcut)
    have hw6 := HB6.out.size
    clear hcut HO5 hqk HX5 HB55
    generalize wc = w6 at *
    go_wp2_with (first
      | (at_builtin; refine wpList_append_ints rfl _ _ rfl w6.heap.size (Nat.le_refl _) _ len _ (HV.out.below HB6.out) (by omega) rfl rfl ?_; intro va w7 hown7 hgrow7 hat7; have HB67 := hide (below_of_grown hgrow7); have HB7 := hide (below_two HB6.out HB67.out); have hw7 := HB67.out.size)
      | (at_builtin; refine wpList_append_ints rfl _ _ rfl w6.heap.size hw7 _ len _ (HV.out.below HB7.out) (by omega) rfl rfl ?_; intro vf w8 hown8 hgrow8 hat8))
    have HB8 := hide (below_two HB67.out (below_of_grown hgrow8))
    have HS0 : Hid (FillSt w6 s len U wo 0 va vf w8) := by
      refine ⟨?_, ?_, ?_, HB8.out⟩
      · rw [List.take_zero, List.map_nil, List.append_nil, Nat.add_zero, iV_pre]
        exact hown7.kept hgrow8 (by cases e : va.ownBlock with
          | none => exact Or.inl rfl
          | some _ => exact Or.inr (by simp))
      · show w8.ownsRow _ _ _ vf (len + 0) (iV (preL s len ++ []))
        rw [List.append_nil, Nat.add_zero, iV_pre]; exact hown8
      · cases ea : va.ownBlock with
        | none => exact Or.inl ea
        | some ga =>
          cases ef : vf.ownBlock with
          | none => exact Or.inr (Or.inl ef)
          | some gf =>
            refine Or.inr (Or.inr ?_)
            rw [ea, ef]
            have h1 := hat8 gf ef
            have h2 := (hown7.lt ga ea).2
            intro e
            injection e with e
            omega
    have hcq : q ≤ 16 := by omega
    have HLq : Hid (0 < q → ∃ gl, al = some ⟨gl, 0, none⟩ ∧ q ≤ cl ∧ cl ≤ maxLen ∧ ∀ i, i < q → w6.cell? ⟨gl, i, none⟩ = some (.int .i64 (U.getD i 0 : Nat))) := fun h0 => by
      have h9 := HO6.out
      rw [← HQ.out] at h9 h0
      obtain ⟨gl, c9, e9, h1, h2, h3⟩ := own_lst h9 h0
      injection e9 with e1 _ e3
      subst e3
      exact ⟨gl, e1, by rw [← HQ.out]; exact h1, h2, fun i hi => by have := h3 i (by rw [HQ.out]; exact hi); rw [Nat.zero_add] at this; exact this⟩
    have hsz6 := HB6.out.size
    clear hown7 hgrow7 hat7 hown8 hgrow8 hat8 hw7 HB7 HO6
    go_wp2_with fail
    go_loopw [19, 20, 21] (fun va vf i wr => ∃ j : Nat, j ≤ q ∧ i = .int .i64 j ∧ FillSt w6 s len U wo j va vf wr) (fun _ _ i _ => q - (intOf i).toNat)
    case atStart => exact ⟨0, Nat.zero_le _, rfl, HS0.out⟩
    case round =>
      obtain ⟨j, hj, rfl, hS⟩ := hrel
      have HS := hide hS
      clear hS HS0
      have hfl : (fewL wo U j).length ≤ j := by have := fewL_len wo U j; omega
      by_cases hlt : j < q
      · obtain ⟨gl, e1, h1, h2, h3⟩ := HLq.out (by omega)
        subst e1
        obtain ⟨hA, hF, hAp, hbr⟩ := HS.out
        have hcj : wr.cell? ⟨gl, j, none⟩ = some (.int .i64 (U.getD j 0 : Nat)) := cell_below hbr (h3 j hlt)
        have hgl : gl < w6.heap.size := cell_lt (h3 j hlt)
        have HA := hide hA
        have HF := hide hF
        have HAp := hide hAp
        have HBr := hide hbr
        have hbs := hbr.size
        have hu16 : U.getD j 0 < n := HU.out _ (by have : j < U.length := by rw [HQ.out]; exact hlt
                                                   simp [List.getD, this])
        have HNext : Hid (iV (preL s len ++ (U.take (j + 1)).map (· + 1)) = iV (preL s len ++ (U.take j).map (· + 1)) ++ [.int .i64 ((U.getD j 0 + 1 : Nat) : Int)]) := by
          rw [Hid, take_snocN (by rw [HQ.out]; exact hlt), List.map_append, ← List.append_assoc]; exact iV_snoc _ _
        have HFe : Hid ((j : Int) = wo → fewL wo U (j + 1) = fewL wo U j) := fun e => by rw [fewL, if_pos e]
        have HFn : Hid (¬ (j : Int) = wo → fewL wo U (j + 1) = fewL wo U j ++ [U.getD j 0 + 1]) := fun e => by rw [fewL, if_neg e]
        unfold maxLen at h2
        clear hA hF hAp hbr h3
        generalize U.getD j 0 = u at *
        generalize hcc : (fewL wo U j).length = cc at *
        have HCC := hide hcc
        clear hcc
        by_cases hwo : (j : Int) = wo
        · have hne : ((j : Int) != wo) = false := by rw [hwo]; simp
          have HF2 := hide (HFe.out hwo)
          clear hwo HFe HFn
          go_wp2_with (at_builtin; refine wpList_append_lies _ rfl _ _ 22 rfl w6.heap.size 3 i0 (.int .i64 0) 1 8 Try.underlying22 Hi.out Hz0.out Hz1.out Hz2.out rfl (by decide) _ _ _ rfl (HA.out.alloc _) ⟨wr.heap.size, 0, none⟩ 1 1 [.int .i64 ((u + 1 : Nat) : Int)] rfl rfl (cell_one_new _ _ _) (fun x hx => by simp at hx; subst hx; rfl) (by decide) (by unfold maxLen; omega) (by omega) (by simp; omega) _ rfl ?_; intro g3 cap3 w3 hown3 hgrow3 hat3 hlt3)
          go_roundw
          case rel =>
            refine ⟨j + 1, by omega, by go_num, ?_, ?_, apart_new (HF.out.alloc _) HAp.out (Nat.le_refl _) hat3, (HBr.out.alloc hbs _).grown hgrow3 (by simp; omega) (fun q hq => (HA.out.lt q hq).1)⟩
            · rw [HNext.out]; exact hown3
            · rw [HF2.out, HCC.out]; exact (HF.out.alloc _).kept hgrow3 HAp.out.kept
          case measure => simp [intOf]; omega
        · have hne : ((j : Int) != wo) = true := by rw [bne_iff_ne]; exact hwo
          have HF2 := hide (HFn.out hwo)
          clear hwo HFe HFn
          go_wp2_with (first
            | (at_builtin; refine wpList_append_lies _ rfl _ _ 22 rfl w6.heap.size 3 i0 (.int .i64 0) 1 8 Try.underlying22 Hi.out Hz0.out Hz1.out Hz2.out rfl (by decide) _ _ _ rfl (HA.out.alloc _) ⟨wr.heap.size, 0, none⟩ 1 1 [.int .i64 ((u + 1 : Nat) : Int)] rfl rfl (cell_one_new _ _ _) (fun x hx => by simp at hx; subst hx; rfl) (by decide) (by unfold maxLen; omega) (by omega) (by simp; omega) _ rfl ?_; intro g3 cap3 w3 hown3 hgrow3 hat3 hlt3; have HF3 := hide ((HF.out.alloc (.cells #[.int .i64 ((u + 1 : Nat) : Int)] 3)).kept hgrow3 HAp.out.kept); have HB3 := hide ((HBr.out.alloc hbs (.cells #[.int .i64 ((u + 1 : Nat) : Int)] 3)).grown hgrow3 (by simp; omega) (fun q hq => (HA.out.lt q hq).1)); have HAp3 := hide (apart_new (n := len + j + 1) (c := cap3) (HF.out.alloc (.cells #[.int .i64 ((u + 1 : Nat) : Int)] 3)) HAp.out (Nat.le_refl _) hat3); have hcj3 : w3.cell? ⟨gl, j, none⟩ = some (.int .i64 (u : Nat)) := hgrow3.cell (cell_below ((Below.refl _ wr).alloc (Nat.le_refl _) _) hcj) (fun e => by have := (HA.out.lt gl e.symm).1; omega))
            | (at_builtin; refine wpList_append_lies _ rfl _ _ 22 rfl w6.heap.size 3 i0 (.int .i64 0) 1 8 Try.underlying22 Hi.out Hz0.out Hz1.out Hz2.out rfl (by decide) _ _ _ rfl (HF3.out.alloc _) ⟨w3.heap.size, 0, none⟩ 1 1 [.int .i64 ((u + 1 : Nat) : Int)] rfl rfl (cell_one_new _ _ _) (fun x hx => by simp at hx; subst hx; rfl) (by decide) (by unfold maxLen; omega) (by omega) (by have := HB3.out.size; simp; omega) _ rfl ?_; intro g4 cap4 w4 hown4 hgrow4 hat4 hlt4))
          go_roundw
          case rel =>
            have hb3 := HB3.out.size
            refine ⟨j + 1, by omega, by go_num, ?_, ?_, (apart_new (hown3.alloc _) HAp3.out.symm (Nat.le_refl _) hat4).symm, (HB3.out.alloc hb3 _).grown hgrow4 (by simp; omega) (fun q hq => (HF3.out.lt q hq).1)⟩
            · rw [HNext.out]; exact (hown3.alloc _).kept hgrow4 HAp3.out.symm.kept
            · rw [HF2.out, List.length_append, HCC.out, ← List.append_assoc, iV_snoc]; exact hown4
          case measure => simp [intOf]; omega
      · obtain rfl : j = q := by omega
        obtain ⟨hA, hF, hAp, hbr⟩ := HS.out
        obtain ⟨aa, ca, rfl⟩ := own_slice hA
        obtain ⟨af, cf, rfl⟩ := own_slice hF
        have HA := hide hA
        have HF := hide hF
        have HBr := hide (below_two HB6.out hbr)
        have HTk : Hid (U.take j = U) := by rw [Hid, ← HQ.out, List.take_length]
        have HGood : Hid (∀ x ∈ preL s len, 1 ≤ x ∧ x ≤ 10000) := pre_good HSS.out
        clear hA hF hAp hbr HS
        by_cases hmany : 60 < len + j
        · go_wp2
          go_ret
          exact ⟨rfl, HBr.out⟩
        · have KA : Hid (Calls Try.prog 5 #[.int .i64 n, .slice aa (len + j) ca] wr fun e w' => e = .returned (.tuple #[.int .i64 (n : Nat), .nilIface]) ∧ Below wr.heap.size wr w') := by
            have h9 := rank_list (A := preL s len ++ (U.take j).map (· + 1)) hn1 hn2 (by omega) (by rw [HTk.out, List.length_append, preL_len, List.length_map, HQ.out]) HA.out (fun x hx => by
              rcases List.mem_append.1 hx with hx | hx
              · exact HGood.out x hx
              · rw [HTk.out] at hx
                obtain ⟨u, hu, rfl⟩ := List.mem_map.1 hx
                have := HU.out u hu
                omega)
            rw [HTk.out, AR.out] at h9
            exact h9
          have KB : Hid (∀ W, Below wr.heap.size wr W → Calls Try.prog 5 #[.int .i64 n, .slice af (len + (fewL wo U j).length) cf] W fun e w' => ∃ o : Nat, e = .returned (.tuple #[.int .i64 (o : Nat), .nilIface]) ∧ (0 ≤ wo → wo < (j : Int) → o < n) ∧ Below W.heap.size W w') := fun W hW => by
            refine (rank_list (A := preL s len ++ fewL wo U j) hn1 hn2 (by omega) (by rw [List.length_append, preL_len]) (ownU HF.out hW) (fun x hx => ?_)).mono fun e w' ⟨he, hb⟩ => ⟨_, he, FR.out, hb⟩
            rcases List.mem_append.1 hx with hx | hx
            · exact HGood.out x hx
            · obtain ⟨u, hu, rfl⟩ := fewL_mem (by rw [HQ.out]; exact Nat.le_refl _) hx
              have := HU.out u hu
              omega
          generalize (fewL wo U j).length = cc at *
          clear HA HF
          go_wp2_with fail
          refine (KA.out).mono ?_
          rintro e w9 ⟨rfl, hb9⟩
          have HB9 := hide hb9
          clear hb9 KA
          go_wp2_with fail
          refine (KB.out _ HB9.out).mono ?_
          rintro e w10 ⟨o, rfl, ho, hb10⟩
          have HB10 := hide (below_two HBr.out (below_two HB9.out hb10))
          clear hb10 KB
          by_cases h0 : wo < 0
          · clear ho
            go_wp2
            go_ret
            exact ⟨rfl, HB10.out⟩
          · by_cases h1 : wo < (j : Int)
            · have ho := ho (by omega) h1
              go_wp2
              go_ret
              exact ⟨rfl, HB10.out⟩
            · clear ho
              go_wp2
              go_ret
              exact ⟨rfl, HB10.out⟩
  · have R := hide (fun W (hW : Below w.heap.size w W) => rank_bad (hv.below hW) hf)
    generalize fS k len f = y at *
    obtain ⟨a, cap, rfl, _⟩ := hv.open
    clear hv hf
    go_enter Try.func3, Try.ntmps3
    go_wp2_with fail
    refine (F0.out).mono ?_
    rintro e w1 ⟨g1, c1, rfl, hc1, hc2, hd0, hd1, hb1⟩
    have HB1 := hide hb1
    unfold maxLen at hc2
    clear hb1
    go_wp2_with fail
    refine (R.out _ HB1.out).mono ?_
    rintro e w2 ⟨rfl, rfl⟩
    go_wp2
    go_ret
    exact ⟨rfl, HB1.out⟩
end Go.Proofs.Ytakaeikobahaoaa
