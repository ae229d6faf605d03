/-
  Lemmas for the law above, joined into one text (Rk). No statement is proved here.
-/
import Derived.Test.YtjgifjkdgoijmaaGreatDoorYG39
import Derived.Test.YtjgifjkdgoijmaaGreatDoorYRClr
namespace Go.Proofs.YtjgifjkdgoijmaaGreatDoor
open Go.RowKit
set_option linter.unusedVariables false
set_option maxRecDepth 100000

/-- The lines that rank holds. -/
structure RkS (w : World) (g N : Nat) (m : Nat → Nat) (wr : World) : Prop where
  rows : 0 < N → w.heap.size ≤ g ∧ Lns wr g N m (fun _ => ⟨#[]⟩)
  below : Below w.heap.size w wr
theorem RkS.step {w : World} {g N : Nat} {m : Nat → Nat} {wr w' : World} (h : RkS w g N m wr) (hb : Below wr.heap.size wr w') : RkS w g N m w' := ⟨fun h0 => ⟨(h.rows h0).1, (h.rows h0).2.below hb⟩, below_two h.below hb⟩
theorem RkS.congr {w : World} {g N : Nat} {m n : Nat → Nat} {wr : World} (h : RkS w g N m wr) (e : ∀ j, j < N → m j = n j) : RkS w g N n wr := ⟨fun h0 => ⟨(h.rows h0).1, fun i hi => by rw [← e i hi]; exact (h.rows h0).2 i hi⟩, h.below⟩
theorem RkS.setRow {w : World} {g N : Nat} {m : Nat → Nat} {wr : World} (h : RkS w g N m wr) {i : Nat} (hi : i < N) (mi : Nat) (f : Nat → Bool) (hf : ∀ j, j < 16 → f j = mi.testBit j) :
    RkS w g N (fun j => if j = i then mi else m j) (wr.setCells g (i * 17) (linC f ⟨#[]⟩).toList) := by
  have h0 := h.rows (by omega)
  refine ⟨fun _ => ⟨h0.1, fun j hj => ?_⟩, sets_below h0.1 _ _ _ h.below⟩
  by_cases e : j = i
  · subst e
    simp only [if_true]
    exact ((h0.2 j hj).put f ⟨#[]⟩).congr hf
  · simp only [if_neg e]
    exact (h0.2 j hj).apart g (i * 17) f ⟨#[]⟩ (by omega)
/-- Once they are copied. -/
def CopiedR (w : World) (N : Nat) (m : Nat → Nat) (t : Value) (wx : World) : Prop :=
  ∃ a cap g, t = .slice a N cap ∧ (0 < N → a = some ⟨g, 0, none⟩ ∧ N ≤ cap ∧ cap ≤ maxLen) ∧ RkS w g N m wx
/-- Behind some places. -/
def RkInv (w : World) (L : List Nat) (k g N b n : Nat) (wr : World) : Prop := ∃ m pv, Elim L k N b n m pv ∧ RkS w g N m wr
/-- Looking for a line that has the place b. -/
def FindR (w : World) (g N b n : Nat) (m : Nat → Nat) (i : Nat) (fo : Option Nat) (wr : World) : Prop :=
  (fo = none → ∀ j, n ≤ j → j < i → (m j).testBit b = false) ∧ (∀ p, fo = some p → n ≤ p ∧ p < N ∧ (m p).testBit b = true) ∧ RkS w g N m wr
theorem xorE : xorB ⟨#[]⟩ ⟨#[]⟩ = ⟨#[]⟩ := by decide +kernel
set_option maxHeartbeats 8000000 in
theorem rk_ok (k N : Nat) (v : Value) (m0 : Nat → Nat) (w : World) (hk : k ≤ 16) (hN : N ≤ 100) (hv : LnsAt w v N m0 (fun _ => ⟨#[]⟩)) (hm : ∀ i, i < N → m0 i < 2 ^ k) :
    Calls Tryz.prog 52 #[v, .int .i64 k] w fun e w' => e = .returned (.int .i64 (rkL (preL m0 N) : Nat)) ∧ Below w.heap.size w w' := by
  have HV := hide hv
  have HM := hide hm
  obtain ⟨i0, hi0, hz0, hz1, hz2⟩ := info_parts Tryz.infoLine
  have Hi := hide hi0
  have Hz0 := hide hz0
  have Hz1 := hide hz1
  have Hz2 := hide hz2
  have hvs : ∃ a cap, v = .slice a N cap := by
    rcases hv with ⟨rfl, rfl⟩ | ⟨_, g, cap, rfl, _⟩
    · exact ⟨_, _, rfl⟩
    · exact ⟨_, _, rfl⟩
  obtain ⟨av, cv, hvv⟩ := hvs
  clear hv hm hi0 hz0 hz1 hz2
  subst hvv
  go_enter Tryz.func52, Tryz.ntmps52
  go_upto_region 2 with fail
  go_cut [5] (fun t wx => CopiedR w N m0 t wx)
  case first =>
    rcases HV.out with ⟨e0, ev⟩ | ⟨hp, g, cap, ev, h1, h2, hL⟩
    · subst e0
      injection ev with ea _ ec
      subst ea ec
      go_wp2_with (at_builtin; refine wpList_append_own_none rfl _ _ 99 rfl w.heap.size 101 i0 17 Tryz.underlying99 Hi.out _ _ _ rfl (World.ownsRow_nil _ _ _ _) rfl ?_)
      go_meet
      exact ⟨none, 0, 0, rfl, (fun h => by omega), ⟨(fun h => by omega), Below.refl _ _⟩⟩
    · injection ev with ea _ ec
      subst ea ec
      have HLw := hide hL
      clear hL
      go_wp2_with (at_builtin; refine wpList_append_lies _ rfl _ _ 99 rfl w.heap.size 101 i0 (.agg (linC (fun _ => false) ⟨#[]⟩)) 17 32 Tryz.underlying99 Hi.out Hz0.out Hz1.out Hz2.out rfl (by decide) _ _ _ rfl (World.ownsRow_nil _ _ _ _) ⟨g, 0, none⟩ N cv (lcells m0 (fun _ => ⟨#[]⟩) N) rfl (lcells_len _ _ _) HLw.out.cell (lcells_one _ _ _) hp (by unfold maxLen; omega) (by omega) (by omega) _ rfl ?_; intro g3 cap3 w3 hown3 hgrow3 hat3 hlt3)
      go_meet
      have hown : w3.ownsRow w.heap.size 101 17 (.slice (some ⟨g3, 0, none⟩) N cap3) N (lcells m0 (fun _ => ⟨#[]⟩) N) := by
        have h9 := hown3
        rw [Nat.zero_add, List.nil_append] at h9
        exact h9
      have hgr : w.grownBy w3 none := hgrow3
      have hbb : Below w.heap.size w w3 := (Below.refl _ _).grown hgr (Nat.le_refl _) (fun j hj => by cases hj)
      refine ⟨_, cap3, g3, rfl, fun _ => ⟨rfl, ?_⟩, fun _ => ⟨(hown.lt g3 rfl).1, own_lns hown⟩, hbb⟩
      rcases hown.2 with ⟨_, h⟩ | ⟨g4, cap4, cur, hv4, _, _, q1, q2, _⟩
      · omega
      · injection hv4 with _ _ e
        rw [e]; exact ⟨q1, q2⟩
  case rest =>
  obtain ⟨a9, c9, g, ht, hbn, hC⟩ := hcut
  subst ht
  have HI : Hid (RkInv w (preL m0 N) k g N 0 0 wc) := ⟨m0, fun _ => 0, elim_none rfl HM.out, hC⟩
  have HBN := hide hbn
  clear hC hbn HV HM
  generalize hLL : preL m0 N = L at *
  have HLL := hide hLL
  clear hLL
  go_wp2_with fail
  go_loopw [6, 7] (fun t6 t7 wr => ∃ b n : Nat, b ≤ k ∧ n ≤ N ∧ t7 = .int .i64 b ∧ t6 = .int .i64 n ∧ RkInv w L k g N b n wr) (fun _ t _ => k - (intOf t).toNat)
  case atStart => exact ⟨0, 0, Nat.zero_le _, Nat.zero_le _, rfl, rfl, HI.out⟩
  case round =>
    obtain ⟨b, n, hb, hnN, rfl, rfl, hI⟩ := hrel
    have HIb := hide hI
    clear hI HI
    by_cases hlt : b < k
    · obtain ⟨m, pv, hE, hS⟩ := HIb.out
      have HE := hide hE
      have HS := hide hS
      have hb16 : b < 16 := by omega
      clear hE hS HIb
      go_wp2_with fail
      go_loopw [8, 9] (fun t8 t9 wr => ∃ (i : Nat) (fo : Option Nat), n ≤ i ∧ i ≤ N ∧ t9 = .int .i64 i ∧ t8 = .int .i64 (foI fo) ∧ FindR w g N b n m i fo wr) (fun _ t _ => N - (intOf t).toNat)
      case atStart => exact ⟨n, none, Nat.le_refl _, hnN, rfl, rfl, (fun _ j h1 h2 => absurd h2 (by omega)), (fun p hp => by cases hp), HS.out⟩
      case round =>
        obtain ⟨i, fo, hni, hi, rfl, rfl, hF⟩ := hrel
        have HF := hide hF
        clear hF
        obtain ⟨r, hr⟩ : ∃ r : Bool, (r = true ↔ i < N ∧ fo = none) := ⟨decide (i < N ∧ fo = none), by simp⟩
        have HRr := hide hr
        clear hr
        go_upto_region 9 with fail
        go_cut [28] (fun t wx => t = .bool r ∧ wr = wx)
        case first =>
          by_cases h1 : i < N
          · cases fo with
            | none =>
              obtain rfl : r = true := HRr.out.2 ⟨h1, rfl⟩
              have e0 : foI none = -1 := rfl
              have h2 : (i : Int) < (N : Int) := by omega
              rw [e0]
              go_wp2
              go_meet
              exact ⟨by first | rfl | simp, rfl⟩
            | some p =>
              obtain rfl : r = false := by
                cases r with
                | false => rfl
                | true => have := (HRr.out.1 rfl).2; cases this
              have e0 : foI (some p) = (p : Int) := rfl
              have h2 : (i : Int) < (N : Int) := by omega
              have h4 : ¬ (p : Int) < 0 := by omega
              rw [e0]
              go_wp2
              go_meet
              exact ⟨by first | rfl | simp <;> omega, rfl⟩
          · obtain rfl : r = false := by
              cases r with
              | false => rfl
              | true => exact absurd (HRr.out.1 rfl).1 h1
            have h2 : ¬ (i : Int) < (N : Int) := by omega
            go_wp2
            go_meet
            exact ⟨by first | rfl | simp <;> omega, rfl⟩
        case rest =>
        obtain ⟨ht28, hw28⟩ := hcut
        subst ht28 hw28
        cases r with
        | true =>
          obtain ⟨h1, h2⟩ := HRr.out.1 rfl
          subst h2
          have hr0 := (HF.out.2.2.rows (by omega)).2 i h1
          obtain ⟨ha9, hq1, hq2⟩ := HBN.out (by omega)
          subst ha9
          have cb := (hr0.1 b hb16).1
          unfold maxLen at hq2
          clear hr0
          have hii : (i : Int) < (N : Int) := by omega
          cases hbt : (m i).testBit b with
          | false =>
            rw [hbt] at cb
            have HGo : Hid (FindR w g N b n m (i + 1) none wr) := ⟨fun _ j h3 h4 => by
              by_cases e : j = i
              · subst e; exact hbt
              · exact HF.out.1 rfl j h3 (by omega), (fun p hp => by cases hp), HF.out.2.2⟩
            clear hbt
            go_wp2
            go_roundw
            case rel => exact ⟨i + 1, none, by omega, by omega, by go_num, rfl, HGo.out⟩
            case measure => simp [intOf]; omega
          | true =>
            rw [hbt] at cb
            have HGo : Hid (FindR w g N b n m (i + 1) (some i) wr) := ⟨(fun h => by cases h), (fun p hp => by cases hp; exact ⟨hni, h1, hbt⟩), HF.out.2.2⟩
            clear hbt
            go_wp2
            go_roundw
            case rel => exact ⟨i + 1, some i, by omega, by omega, by go_num, rfl, HGo.out⟩
            case measure => simp [intOf]; omega
        | false =>
          have HEnd : Hid (fo = none → ∀ j, n ≤ j → j < N → (m j).testBit b = false) := fun e j h3 h4 => HF.out.1 e j h3 (by
            rcases Nat.lt_or_ge i N with h | h
            · have := HRr.out.2 ⟨h, e⟩; cases this
            · omega)
          have HFnd := hide HF.out.2.1
          have HS2 := hide HF.out.2.2
          clear HF HRr HS
          cases fo with
          | none =>
            have HNext : Hid (RkInv w L k g N (b + 1) n wr) := ⟨m, pv, HE.out.skip (HEnd.out rfl), HS2.out⟩
            have e0 : foI none = -1 := rfl
            rw [e0]
            clear HEnd HFnd HS2 e0
            go_wp2
            go_roundw
            case rel => exact ⟨b + 1, n, by omega, hnN, by go_num, rfl, HNext.out⟩
            case measure => simp [intOf]; omega
          | some p =>
            obtain ⟨hnp, hpN, hpb⟩ := HFnd.out p rfl
            have HPB := hide hpb
            have e0 : foI (some p) = (p : Int) := rfl
            rw [e0]
            have hp0 : ¬ (p : Int) < 0 := by omega
            have hpN' : (p : Int) < (N : Int) := by omega
            have hnN' : (n : Int) < (N : Int) := by omega
            obtain ⟨ha9, hq1, hq2⟩ := HBN.out (by omega)
            subst ha9
            unfold maxLen at hq2
            obtain ⟨hgw, hLn⟩ := HS2.out.rows (by omega)
            have hgl : g < wr.heap.size := (hLn n (by omega)).lt
            have HRp := hide (hLn p hpN).range
            -- the copy of the line
            have hB1 : Below wr.heap.size wr ((wr.alloc (.cells (linC (fun _ => false) ⟨#[]⟩) 101)).setCells wr.heap.size 0 (linC (m p).testBit ⟨#[]⟩).toList) := sets_below (Nat.le_refl _) _ _ _ ((Below.refl wr.heap.size wr).alloc (Nat.le_refl _) _)
            have hX1 := (linF_new wr (fun _ => false) ⟨#[]⟩ 101).put (m p).testBit ⟨#[]⟩
            have HTh1 := hide (linF_new wr (fun _ => false) ⟨#[]⟩ 101).there
            have hS1 := HS2.out.step hB1
            obtain ⟨W1, hW1⟩ : ∃ W1, W1 = (wr.alloc (.cells (linC (fun _ => false) ⟨#[]⟩) 101)).setCells wr.heap.size 0 (linC (m p).testBit ⟨#[]⟩).toList := ⟨_, rfl⟩
            rw [← hW1] at hS1 hX1
            have HRn := hide ((hS1.rows (by omega)).2 n (by omega)).range
            have HTh2 := hide ((hS1.rows (by omega)).2 p hpN).there
            have hS2 := hS1.setRow hpN (m n) (m n).testBit (fun _ _ => rfl)
            have hX2 := hX1.apart g (p * 17) (m n).testBit ⟨#[]⟩ (Or.inl (by omega))
            obtain ⟨W2, hW2⟩ : ∃ W2, W2 = W1.setCells g (p * 17) (linC (m n).testBit ⟨#[]⟩).toList := ⟨_, rfl⟩
            rw [← hW2] at hS2 hX2
            have HRx := hide hX2.range
            have HTh3 := hide ((hS2.rows (by omega)).2 n (by omega)).there
            have hS3 := hS2.setRow (show n < N by omega) (m p) (m p).testBit (fun _ _ => rfl)
            have hX3 := hX2.apart g (n * 17) (m p).testBit ⟨#[]⟩ (Or.inl (by omega))
            obtain ⟨W3, hW3⟩ : ∃ W3, W3 = W2.setCells g (n * 17) (linC (m p).testBit ⟨#[]⟩).toList := ⟨_, rfl⟩
            rw [← hW3] at hS3 hX3
            have HS3 : Hid (RkS w g N (rid (swp m n p) (m p) b n (n + 1)) W3) := hS3.congr (fun j _ => (rid_none (swp m n p) (m p) b n j).symm)
            have HX3 := hide hX3
            have HW1 := hide hW1
            have HW2 := hide hW2
            have HW3 := hide hW3
            have HPT : Hid (Elim L k N (b + 1) (n + 1) (rid (swp m n p) (m p) b n N) (fun j => if j = n then b else pv j)) := HE.out.take hnp hpN hpb
            clear hW1 hW2 hW3 hS1 hS2 hS3 hX1 hX2 hX3 hB1 hLn hpb HE HEnd HFnd HS2
            generalize hcx : linC (m p).testBit ⟨#[]⟩ = cx at *
            generalize hcn : linC (m n).testBit ⟨#[]⟩ = cn at *
            have hx17 : cx.size = 17 := by rw [← hcx]; rfl
            have hn17 : cn.size = 17 := by rw [← hcn]; rfl
            have HX17 := hide hx17
            have HN17 := hide hn17
            have HXo : Hid (cx.all (·.oneCell') = true) := by rw [Hid, ← hcx]; exact linC_one _ _
            have HNo : Hid (cn.all (·.oneCell') = true) := by rw [Hid, ← hcn]; exact linC_one _ _
            have HCX := hide hcx
            clear hcx hcn hx17 hn17
            go_wp2_with (first
              | (refine wpList_load_mid rfl 101 _ rfl g (p * 17) rfl cx.toList _ HRp.out Tryz.underlying101 rfl (by rw [Array.length_toList, HX17.out]; exact Tryz.sizeLine) ?_)
              | (refine wpList_store_mid rfl 101 _ _ rfl wr.heap.size 0 cx rfl (by first | rfl | (rw [Array.toArray_toList]; rfl)) (by rw [HX17.out]; exact HTh1.out) (by rw [HX17.out]; exact Tryz.sizeLine) HXo.out ?_; have hgen := HW1.out; unfold linC at hgen; rw [← hgen]; clear hgen)
              | (refine wpList_load_mid rfl 101 _ rfl g (n * 17) rfl cn.toList _ HRn.out Tryz.underlying101 rfl (by rw [Array.length_toList, HN17.out]; exact Tryz.sizeLine) ?_)
              | (refine wpList_store_mid rfl 101 _ _ rfl g (p * 17) cn rfl (by first | rfl | (rw [Array.toArray_toList]; rfl)) (by rw [HN17.out]; exact HTh2.out) (by rw [HN17.out]; exact Tryz.sizeLine) HNo.out ?_; rw [← HW2.out])
              | (refine wpList_load_mid rfl 101 _ rfl wr.heap.size 0 rfl cx.toList _ HRx.out Tryz.underlying101 rfl (by rw [Array.length_toList, HX17.out]; exact Tryz.sizeLine) ?_)
              | (refine wpList_store_mid rfl 101 _ _ rfl g (n * 17) cx rfl (by first | rfl | (rw [Array.toArray_toList]; rfl)) (by rw [HX17.out]; exact HTh3.out) (by rw [HX17.out]; exact Tryz.sizeLine) HXo.out ?_; rw [← HW3.out]))
            clear HW1 HW2 HW3 HTh1 HTh2 HTh3 HRp HRn HRx HNo HN17
            generalize wr.heap.size = bx at *
            have hgx : bx ≠ g := by omega
            have HGX := hide hgx
            clear hgl hgx
            go_loopw [11] (fun t wr => ∃ i : Nat, n + 1 ≤ i ∧ i ≤ N ∧ t = .int .i64 i ∧ RkS w g N (rid (swp m n p) (m p) b n i) wr ∧ LinF wr bx 0 (m p).testBit ⟨#[]⟩) (fun t _ => N - (intOf t).toNat)
            case atStart => exact ⟨n + 1, Nat.le_refl _, by omega, rfl, HS3.out, HX3.out⟩
            case round =>
              obtain ⟨i2, hi3, hi2, rfl, hS, hX⟩ := hrel
              have HS := hide hS
              have HX := hide hX
              clear hS hX HS3 HX3
              by_cases h1 : i2 < N
              · obtain ⟨_, hLn⟩ := HS.out.rows (by omega)
                have hLi := hLn i2 h1
                rw [rid_at] at hLi
                have HLi := hide hLi
                have cb := (hLi.1 b hb16).1
                have hii : (i2 : Int) < (N : Int) := by omega
                clear hLn hLi
                cases hbt : (swp m n p i2).testBit b with
                | false =>
                  rw [hbt] at cb
                  have HGo : Hid (RkS w g N (rid (swp m n p) (m p) b n (i2 + 1)) wr) := HS.out.congr (fun j _ => (rid_same hbt j).symm)
                  clear hbt
                  go_wp2
                  go_roundw
                  case rel => exact ⟨i2 + 1, by omega, by omega, by go_num, HGo.out, HX.out⟩
                  case measure => simp [intOf]; omega
                | true =>
                  rw [hbt] at cb
                  have OV : Hid (∀ W, Calls Tryz.prog 85 #[.agg (linC (swp m n p i2).testBit ⟨#[]⟩), .agg cx] W fun e w' => e = .returned (.agg (linC (fun j => (swp m n p i2).testBit j != (m p).testBit j) ⟨#[]⟩)) ∧ Below W.heap.size W w') := fun W => by
                    have h9 := over_ok (swp m n p i2).testBit (m p).testBit ⟨#[]⟩ ⟨#[]⟩ W (by decide) rfl
                    rw [xorE, HCX.out] at h9
                    exact h9
                  have HSet : Hid (∀ W, Below wr.heap.size wr W → RkS w g N (rid (swp m n p) (m p) b n (i2 + 1)) (W.setCells g (i2 * 17) (linC (fun j => (swp m n p i2).testBit j != (m p).testBit j) ⟨#[]⟩).toList)) := fun W hW =>
                    ((HS.out.step hW).setRow h1 (swp m n p i2 ^^^ m p) _ (fun j _ => by rw [Nat.testBit_xor])).congr (fun j _ => (rid_next hbt (by omega) j).symm)
                  have HXt : Hid (∀ W, Below wr.heap.size wr W → LinF (W.setCells g (i2 * 17) (linC (fun j => (swp m n p i2).testBit j != (m p).testBit j) ⟨#[]⟩).toList) bx 0 (m p).testBit ⟨#[]⟩) := fun W hW => (HX.out.below hW).apart g (i2 * 17) _ _ (Or.inl HGX.out)
                  have HTh : Hid (∀ W, Below wr.heap.size wr W → W.there g (i2 * 17) 17) := fun W hW => (HLi.out.below hW).there
                  have HRi := hide HLi.out.range
                  have HRx : Hid (wr.rangeAt bx 0 cx.toList) := by
                    have h9 := HX.out.range
                    rw [HCX.out] at h9
                    exact h9
                  have HC1 : Hid ((linC (fun j => (swp m n p i2).testBit j != (m p).testBit j) ⟨#[]⟩).size = 17) := rfl
                  have HC2 : Hid ((linC (fun j => (swp m n p i2).testBit j != (m p).testBit j) ⟨#[]⟩).all (·.oneCell') = true) := linC_one _ _
                  have HCi : Hid ((linC (swp m n p i2).testBit ⟨#[]⟩).size = 17) := rfl
                  clear hbt
                  generalize linC (swp m n p i2).testBit ⟨#[]⟩ = ci at *
                  generalize linC (fun j => (swp m n p i2).testBit j != (m p).testBit j) ⟨#[]⟩ = cc at *
                  go_upto_region 21 with fail
                  refine regionR21 g bx N c9 i2 ci cx cc rfl rfl rfl rfl h1 (by omega) HRi.out HRx.out HCi.out HX17.out (by rw [HC1.out]; exact HTh.out) HC1.out HC2.out OV.out (fun _ _ _ _ _ h => h) ?_
                  intro w4 hb4
                  simp only [Act.put]
                  go_wp2
                  go_roundw
                  case rel => first | exact ⟨i2 + 1, by omega, by omega, by go_num, HSet.out w4 hb4, HXt.out w4 hb4⟩ | ((repeat apply Exists.intro); exact ⟨⟨i2 + 1, by omega, by omega, by go_num, HSet.out w4 hb4, HXt.out w4 hb4⟩, rfl⟩)
                  case measure => simp [intOf]; omega
              · obtain rfl : i2 = N := by omega
                have HNext : Hid (RkInv w L k g i2 (b + 1) (n + 1) wr) := ⟨_, _, HPT.out, HS.out⟩
                have hii : ¬ (i2 : Int) < (i2 : Int) := by omega
                clear HS HX
                go_wp2
                go_roundw
                case rel => exact ⟨b + 1, n + 1, by omega, by omega, by go_num, by go_num, HNext.out⟩
                case measure => simp [intOf]; omega
    · obtain rfl : b = k := by omega
      obtain ⟨m, pv, hE, hS⟩ := HIb.out
      have HRk : Hid (rkL L = n) := hE.rank
      have HB := hide hS.below
      have hkk : ¬ (b : Int) < (b : Int) := by omega
      clear hE hS HIb
      go_wp2
      go_ret
      exact ⟨by rw [HLL.out, HRk.out]; rfl, HB.out⟩
end Go.Proofs.YtjgifjkdgoijmaaGreatDoor
