/-
  Lemmas for the law above, joined into one text (RClr). No statement is proved here.
-/
import Derived.Test.YtjgifjkdgoijmaaGreatDoorYG36
namespace Go.Proofs.YtjgifjkdgoijmaaGreatDoor
open Go.RowKit
set_option linter.unusedVariables false
set_option maxRecDepth 100000

/-- Behind some places. -/
def ClInv (w : World) (L : List RV) (k n g N b : Nat) (wr : World) : Prop :=
  ∃ m d at_ us, Clr L k N b (fun i => rv (m i) (d i)) at_ us ∧ (∀ c, b ≤ c → at_ c = none) ∧ (∀ i, i < N → (d i).size = n) ∧ ClS w g N (atN at_) us m d wr
/-- The rows, once they are copied. -/
def Copied (w : World) (N : Nat) (m : Nat → Nat) (d : Nat → ByteArray) (t : Value) (wx : World) : Prop :=
  ∃ a cap g, t = .slice a N cap ∧ (0 < N → a = some ⟨g, 0, none⟩ ∧ N ≤ cap ∧ cap ≤ maxLen) ∧ ClS w g N (fun _ => -1) (fun _ => false) m d wx
/-- What is found, as a number. -/
def foI (fo : Option Nat) : Int := match fo with
  | none => -1
  | some p => (p : Int)
/-- Looking for a row that has the place b and is not yet chosen. -/
def Find (w : World) (g N b : Nat) (at_ : Nat → Option Nat) (us : Nat → Bool) (m : Nat → Nat) (d : Nat → ByteArray) (i : Nat) (fo : Option Nat) (wr : World) : Prop :=
  (fo = none → ∀ j, j < i → us j = false → (m j).testBit b = false) ∧ (∀ p, fo = some p → p < N ∧ (m p).testBit b = true ∧ us p = false) ∧ ClS w g N (fun c => if c = b then foI fo else atN at_ c) (fun j => if fo = some j then true else us j) m d wr
/-- The first rows, i of them, without that place. -/
def mSc (fo : Option Nat) (b : Nat) (m : Nat → Nat) (i j : Nat) : Nat := match fo with
  | none => m j
  | some p => if j < i ∧ j ≠ p ∧ (m j).testBit b = true then m j ^^^ m p else m j
def dS (fo : Option Nat) (b : Nat) (m : Nat → Nat) (d : Nat → ByteArray) (i j : Nat) : ByteArray := match fo with
  | none => d j
  | some p => if j < i ∧ j ≠ p ∧ (m j).testBit b = true then xorB (d j) (d p) else d j
/-- Rows that are cleared, i of them. -/
def ClRow (w : World) (g N b : Nat) (at_ : Nat → Option Nat) (us : Nat → Bool) (m : Nat → Nat) (d : Nat → ByteArray) (fo : Option Nat) (t : Value) (wr : World) : Prop :=
  ∃ i : Nat, i ≤ N ∧ t = .int .i64 i ∧ ClS w g N (fun c => if c = b then foI fo else atN at_ c) (fun j => if fo = some j then true else us j) (mSc fo b m i) (dS fo b m d i) wr
set_option maxHeartbeats 2400000 in
theorem clear_ok (k n N : Nat) (v : Value) (m0 : Nat → Nat) (d0 : Nat → ByteArray) (w : World) (hk : 1 ≤ k) (hk2 : k ≤ 16) (hn : n ≤ 8) (hN : N ≤ 60) (hv : LnsAt w v N m0 d0) (hm : ∀ i, i < N → m0 i < 2 ^ k) (hd : ∀ i, i < N → (d0 i).size = n) :
    Calls Tryz.prog 50 #[v, .int .i64 k] w fun e w' => Cleans w ((List.range N).map fun i => rv (m0 i) (d0 i)) k n N e w' := by
  have HV := hide hv
  have HM := hide hm
  have HD := hide hd
  have H0 : Hid (ClS w 0 0 (fun _ => 0) (fun _ => false) m0 d0 (((w.alloc (.cells (Array.replicate 16 (.int .i64 0)) 104)).alloc (.cells (Array.replicate 16 (.int .i64 0)) 104)).alloc (.cells (Array.replicate 60 (.bool false)) 151))) := by
    have h1 := arrI_new w 0 104
    have h2 := arrI_new (w.alloc (.cells (Array.replicate 16 (.int .i64 0)) 104)) 0 104
    have h3 := arrB_new ((w.alloc (.cells (Array.replicate 16 (.int .i64 0)) 104)).alloc (.cells (Array.replicate 16 (.int .i64 0)) 104)) 151
    have e1 : (w.alloc (.cells (Array.replicate 16 (.int .i64 0)) 104)).heap.size = w.heap.size + 1 := by simp
    have e2 : ((w.alloc (.cells (Array.replicate 16 (.int .i64 0)) 104)).alloc (.cells (Array.replicate 16 (.int .i64 0)) 104)).heap.size = w.heap.size + 1 + 1 := by simp
    rw [e1] at h2
    rw [e2] at h3
    have hb1 := fun o : Obj => (Below.refl (w.alloc (.cells (Array.replicate 16 (.int .i64 0)) 104)).heap.size (w.alloc (.cells (Array.replicate 16 (.int .i64 0)) 104))).alloc (Nat.le_refl _) o
    have hb2 := fun o : Obj => (Below.refl _ ((w.alloc (.cells (Array.replicate 16 (.int .i64 0)) 104)).alloc (.cells (Array.replicate 16 (.int .i64 0)) 104))).alloc (Nat.le_refl _) o
    have hbb := below_two (hb1 _) (hb2 (.cells (Array.replicate 60 (.bool false)) 151))
    exact ⟨h1.of_block (hbb.block _ h1.lt), h2.of_block ((hb2 _).block _ h2.lt), h3, fun h => by omega, (((Below.refl _ w).alloc (Nat.le_refl _) _).alloc (by simp) _).alloc (by simp; omega) _⟩
  obtain ⟨i0, hi0, hz0, hz1, hz2⟩ := info_parts Tryz.infoLine
  have Hi := hide hi0
  have Hz0 := hide hz0
  have Hz1 := hide hz1
  have Hz2 := hide hz2
  have hvs : ∃ a cap, v = .slice a N cap := by
    rcases hv with ⟨rfl, rfl⟩ | ⟨_, g, cap, rfl, _⟩
    · exact ⟨_, _, rfl⟩
    · exact ⟨_, _, rfl⟩
  obtain ⟨av, cv, hvv⟩ := hvs
  clear hv hm hd hi0 hz0 hz1 hz2
  subst hvv
  go_enter Tryz.func50, Tryz.ntmps50
  go_wp2_with fail
  go_loopw [8] (fun i wr => ∃ j : Nat, j ≤ 16 ∧ i = .int .i64 j ∧ ClS w 0 0 (fun c => if c < j then -1 else 0) (fun _ => false) m0 d0 wr) (fun i _ => 16 - (intOf i).toNat)
  case atStart => exact ⟨0, by decide, rfl, H0.out.congr (fun j _ => by simp) (fun _ _ => rfl) (fun _ _ => rfl) (fun _ _ => rfl)⟩
  case round =>
    obtain ⟨j, hj, rfl, hS⟩ := hrel
    have HS := hide hS
    clear hS H0
    by_cases hlt : j < 16
    · have c1 := (HS.out.ats j hlt).1
      have f1 := (HS.out.ats j hlt).2
      have HN := hide (HS.out.setAt j (-1))
      go_wp2
      go_roundw
      case rel =>
        refine ⟨j + 1, by omega, by go_num, HN.out.congr (fun i hi => ?_) (fun _ _ => rfl) (fun _ _ => rfl) (fun _ _ => rfl)⟩
        by_cases e1 : i = j
        · rw [if_pos e1, if_pos (by omega)]
        · rw [if_neg e1]
          by_cases e2 : i < j
          · rw [if_pos e2, if_pos (by omega)]
          · rw [if_neg e2, if_neg (by omega)]
      case measure => simp [intOf]; omega
    · obtain rfl : j = 16 := by omega
      have HS1 : Hid (ClS w 0 0 (fun _ => -1) (fun _ => false) m0 d0 wr) := HS.out.congr (fun i hi => by rw [if_pos hi]) (fun _ _ => rfl) (fun _ _ => rfl) (fun _ _ => rfl)
      clear HS
      go_upto_region 8 with fail
      go_cut [9] (fun t wx => Copied w N m0 d0 t wx)
      case first =>
        rcases HV.out with ⟨e0, ev⟩ | ⟨hp, g, cap, ev, h1, h2, hL⟩
        · subst e0
          injection ev with ea _ ec
          subst ea ec
          go_wp2_with (at_builtin; refine wpList_append_own_none rfl _ _ 99 rfl w.heap.size 101 i0 17 Tryz.underlying99 Hi.out _ _ _ rfl (World.ownsRow_nil _ _ _ _) rfl ?_)
          go_meet
          exact ⟨none, 0, 0, rfl, fun h => by omega, HS1.out⟩
        · injection ev with ea _ ec
          subst ea ec
          have HLw := hide (hL.below HS1.out.below)
          have hsz : w.heap.size + 1 + 1 < wr.heap.size := HS1.out.uss.lt
          clear hL
          go_wp2_with (at_builtin; refine wpList_append_lies _ rfl _ _ 99 rfl (w.heap.size + 1 + 1 + 1) 101 i0 (.agg (linC (fun _ => false) ⟨#[]⟩)) 17 32 Tryz.underlying99 Hi.out Hz0.out Hz1.out Hz2.out rfl (by decide) _ _ _ rfl (World.ownsRow_nil _ _ _ _) ⟨g, 0, none⟩ N cv (lcells m0 d0 N) rfl (lcells_len _ _ _) HLw.out.cell (lcells_one _ _ _) hp (by unfold maxLen; omega) (by omega) (by omega) _ rfl ?_; intro g3 cap3 w3 hown3 hgrow3 hat3 hlt3)
          go_meet
          have hown : w3.ownsRow (w.heap.size + 1 + 1 + 1) 101 17 (.slice (some ⟨g3, 0, none⟩) N cap3) N (lcells m0 d0 N) := by
            have h9 := hown3
            rw [Nat.zero_add, List.nil_append] at h9
            exact h9
          have hgr : wr.grownBy w3 none := hgrow3
          have hbb : Below wr.heap.size wr w3 := (Below.refl _ _).grown hgr (Nat.le_refl _) (fun j hj => by cases hj)
          have hst := HS1.out.step hbb
          refine ⟨_, cap3, g3, rfl, fun _ => ⟨rfl, ?_⟩, hst.res, hst.ats, hst.uss, fun _ => ⟨(hown.lt g3 rfl).1, own_lns hown⟩, hst.below⟩
          rcases hown.2 with ⟨_, h⟩ | ⟨g4, cap4, cur, hv4, _, _, q1, q2, _⟩
          · omega
          · injection hv4 with _ _ e
            rw [e]; exact ⟨q1, q2⟩
      case rest =>
      obtain ⟨a9, c9, g, ht, hbn, hC⟩ := hcut
      subst ht
      have HI : Hid (ClInv w ((List.range N).map fun i => rv (m0 i) (d0 i)) k n g N 0 wc) := ⟨m0, d0, fun _ => none, fun _ => false, clr_none rfl HM.out (fun _ => rfl), fun _ _ => rfl, HD.out, hC⟩
      have HBN := hide hbn
      clear hC hbn HS1 HV HM HD
      generalize hLL : ((List.range N).map fun i => rv (m0 i) (d0 i)) = L at *
      have HLL := hide hLL
      clear hLL
      go_wp2_with fail
      go_loopw [10] (fun t wr => ∃ b : Nat, b ≤ k ∧ t = .int .i64 b ∧ ClInv w L k n g N b wr) (fun t _ => k - (intOf t).toNat)
      case atStart => exact ⟨0, Nat.zero_le _, rfl, HI.out⟩
      case round =>
        obtain ⟨b, hb, rfl, hI⟩ := hrel
        have HIb := hide hI
        clear hI HI
        by_cases hlt : b < k
        · obtain ⟨m, d, at_, us, hClr, hno, hsz, hS⟩ := HIb.out
          have HClr := hide hClr
          have HNo := hide hno
          have HSz := hide hsz
          have HS := hide hS
          clear hClr hno hsz hS HIb
          go_wp2_with fail
          go_loopw [11] (fun t wr => ∃ (i : Nat) (fo : Option Nat), i ≤ N ∧ t = .int .i64 i ∧ Find w g N b at_ us m d i fo wr) (fun t _ => N - (intOf t).toNat)
          case atStart =>
            refine ⟨0, none, Nat.zero_le _, rfl, (fun _ j hj => absurd hj (Nat.not_lt_zero _)), (fun p hp => by cases hp), HS.out.congr (fun c _ => ?_) (fun _ _ => by rw [if_neg (by simp)]) (fun _ _ => rfl) (fun _ _ => rfl)⟩
            by_cases e : c = b
            · rw [if_pos e, e]; unfold atN foI; rw [HNo.out b (Nat.le_refl _)]
            · rw [if_neg e]
          case round =>
            obtain ⟨i, fo, hi, rfl, hF⟩ := hrel
            have HF := hide hF
            clear hF
            have hb16 : b < 16 := by omega
            have cat := (HF.out.2.2.ats b hb16).1
            have fat := (HF.out.2.2.ats b hb16).2
            simp only [if_true] at cat
            obtain ⟨r, hr⟩ : ∃ r : Bool, (r = true ↔ i < N ∧ fo = none) := ⟨decide (i < N ∧ fo = none), by simp⟩
            have HRr := hide hr
            clear hr
            go_upto_region 13 with fail
            go_cut [40] (fun t wx => t = .bool r ∧ wr = wx)
            case first =>
              by_cases h1 : i < N
              · cases fo with
                | none =>
                  obtain rfl : r = true := HRr.out.2 ⟨h1, rfl⟩
                  have e0 : foI none = -1 := rfl
                  rw [e0] at cat
                  have h2 : (i : Int) < (N : Int) := by omega
                  have h3 : (i : Int) < 60 := by omega
                  go_wp2
                  go_meet
                  exact ⟨by first | rfl | simp, rfl⟩
                | some p =>
                  obtain rfl : r = false := by
                    cases r with
                    | false => rfl
                    | true => have := (HRr.out.1 rfl).2; cases this
                  have e0 : foI (some p) = (p : Int) := rfl
                  rw [e0] at cat
                  have h2 : (i : Int) < (N : Int) := by omega
                  have h3 : (i : Int) < 60 := by omega
                  have h4 : ¬ (p : Int) < 0 := by omega
                  go_wp2
                  go_meet
                  exact ⟨by first | rfl | simp <;> omega, rfl⟩
              · obtain rfl : r = false := by
                  cases r with
                  | false => rfl
                  | true => exact absurd (HRr.out.1 rfl).1 h1
                have h2 : ¬ (i : Int) < (N : Int) := by omega
                go_wp2
                go_meet
                exact ⟨by first | rfl | simp <;> omega, rfl⟩
            case rest =>
            obtain ⟨ht40, hw40⟩ := hcut
            subst ht40 hw40
            cases r with
            | true =>
              obtain ⟨h1, h2⟩ := HRr.out.1 rfl
              subst h2
              have hr0 := (HF.out.2.2.rows (by omega)).2 i h1
              obtain ⟨ha9, hq1, hq2⟩ := HBN.out (by omega)
              subst ha9
              have cb := (hr0.1 b hb16).1
              have cu := (HF.out.2.2.uss i (by omega)).1
              have fu := (HF.out.2.2.uss i (by omega)).2
              rw [if_neg (by simp)] at cu
              unfold maxLen at hq2
              clear hr0
              have e0 : foI none = -1 := rfl
              rw [e0] at cat
              have hii : (i : Int) < (N : Int) := by omega
              have HStay : Hid ((us i = false → (m i).testBit b = false) → Find w g N b at_ us m d (i + 1) none wr) := fun hx => ⟨fun _ j hj hu => by
                by_cases e : j = i
                · subst e; exact hx hu
                · exact HF.out.1 rfl j (by omega) hu, (fun p hp => by cases hp), HF.out.2.2⟩
              cases hbt : (m i).testBit b with
              | false =>
                rw [hbt] at cb
                have HGo := hide (HStay.out (fun _ => hbt))
                clear hbt HStay
                go_wp2
                go_roundw
                case rel => exact ⟨i + 1, none, by omega, by go_num, HGo.out⟩
                case measure => simp [intOf]; omega
              | true =>
                rw [hbt] at cb
                cases hus : us i with
                | true =>
                  rw [hus] at cu
                  have HGo := hide (HStay.out (fun h => by rw [hus] at h; cases h))
                  clear hbt hus HStay
                  go_wp2
                  go_roundw
                  case rel => exact ⟨i + 1, none, by omega, by go_num, HGo.out⟩
                  case measure => simp [intOf]; omega
                | false =>
                  rw [hus] at cu
                  have HNew : Hid (Find w g N b at_ us m d (i + 1) (some i) ((wr.setCell ⟨w.heap.size + 1, b, none⟩ (.int .i64 (i : Nat))).setCell ⟨w.heap.size + 1 + 1, i, none⟩ (.bool true))) := by
                    refine ⟨(fun h => by cases h), (fun p hp => by cases hp; exact ⟨h1, hbt, hus⟩), ((HF.out.2.2.setAt b (i : Nat)).setUs i true).congr (fun c _ => ?_) (fun j _ => ?_) (fun _ _ => rfl) (fun _ _ => rfl)⟩
                    · by_cases e : c = b
                      · rw [if_pos e, if_pos e]; rfl
                      · rw [if_neg e, if_neg e, if_neg e]
                    · by_cases e : j = i
                      · rw [if_pos e, if_pos (by rw [e])]
                      · rw [if_neg e, if_neg (by simp), if_neg (fun h => e (by injection h with h; exact h.symm))]
                  have cu2 := (HF.out.2.2.setAt b (i : Nat)).uss i (by omega)
                  have cu3 := cu2.1
                  have cu4 := cu2.2
                  clear cu2 hbt hus HStay
                  go_wp2
                  go_roundw
                  case rel => exact ⟨i + 1, some i, by omega, by go_num, HNew.out⟩
                  case measure => simp [intOf]; omega
            | false =>
              have HEnd : Hid (fo = none → ∀ j, j < N → us j = false → (m j).testBit b = false) := fun e j hj hu => HF.out.1 e j (by
                rcases Nat.lt_or_ge i N with h | h
                · have := HRr.out.2 ⟨h, e⟩; cases this
                · omega) hu
              have HFnd := hide HF.out.2.1
              have HS0 : Hid (ClS w g N (fun c => if c = b then foI fo else atN at_ c) (fun j => if fo = some j then true else us j) (mSc fo b m 0) (dS fo b m d 0) wr) := HF.out.2.2.congr (fun _ _ => rfl) (fun _ _ => rfl) (fun j _ => by
                unfold mSc; cases fo with
                | none => rfl
                | some p => simp only [Nat.not_lt_zero, false_and, if_false]) (fun j _ => by
                unfold dS; cases fo with
                | none => rfl
                | some p => simp only [Nat.not_lt_zero, false_and, if_false])
              clear HF HRr cat fat
              go_wp2_with fail
              go_loopw [12] (fun t wr => ClRow w g N b at_ us m d fo t wr) (fun t _ => N - (intOf t).toNat)
              case atStart => exact ⟨0, Nat.zero_le _, rfl, HS0.out⟩
              case round =>
                obtain ⟨i2, hi2, rfl, hS2⟩ := hrel
                have HS2 := hide hS2
                clear hS2 HS0
                have cat := (HS2.out.ats b hb16).1
                simp only [if_true] at cat
                obtain ⟨r, hr⟩ : ∃ r : Bool, (r = true ↔ i2 < N ∧ fo ≠ none) := ⟨decide (i2 < N ∧ fo ≠ none), by simp⟩
                have HRr := hide hr
                clear hr
                go_upto_region 19 with fail
                go_cut [70] (fun t wx => t = .bool r ∧ wr = wx)
                case first =>
                  by_cases h1 : i2 < N
                  · cases fo with
                    | none =>
                      obtain rfl : r = false := by
                        cases r with
                        | false => rfl
                        | true => exact absurd rfl (HRr.out.1 rfl).2
                      have e0 : foI none = -1 := rfl
                      rw [e0] at cat
                      have h2 : (i2 : Int) < (N : Int) := by omega
                      go_wp2
                      go_meet
                      exact ⟨by first | rfl | simp <;> omega, rfl⟩
                    | some p =>
                      obtain rfl : r = true := HRr.out.2 ⟨h1, by simp⟩
                      have e0 : foI (some p) = (p : Int) := rfl
                      rw [e0] at cat
                      have h2 : (i2 : Int) < (N : Int) := by omega
                      have h4 : 0 ≤ (p : Int) := by omega
                      go_wp2
                      go_meet
                      exact ⟨by first | rfl | simp <;> omega, rfl⟩
                  · obtain rfl : r = false := by
                      cases r with
                      | false => rfl
                      | true => exact absurd (HRr.out.1 rfl).1 h1
                    have h2 : ¬ (i2 : Int) < (N : Int) := by omega
                    go_wp2
                    go_meet
                    exact ⟨by first | rfl | simp <;> omega, rfl⟩
                case rest =>
                obtain ⟨ht70, hw70⟩ := hcut
                subst ht70 hw70
                cases r with
                | true =>
                  obtain ⟨h1, h2⟩ := HRr.out.1 rfl
                  cases fo with
                  | none => exact absurd rfl h2
                  | some p =>
                  obtain ⟨hpN, hpb, hpu⟩ := HFnd.out p rfl
                  clear h2
                  have e0 : foI (some p) = (p : Int) := rfl
                  rw [e0] at cat
                  have hmi : mSc (some p) b m i2 i2 = m i2 := by unfold mSc; exact if_neg (fun h => absurd h.1 (Nat.lt_irrefl _))
                  have hdi : dS (some p) b m d i2 i2 = d i2 := by unfold dS; exact if_neg (fun h => absurd h.1 (Nat.lt_irrefl _))
                  have hmp : mSc (some p) b m i2 p = m p := by unfold mSc; exact if_neg (fun h => absurd rfl h.2.1)
                  have hdp : dS (some p) b m d i2 p = d p := by unfold dS; exact if_neg (fun h => absurd rfl h.2.1)
                  have hLi := (HS2.out.rows (by omega)).2 i2 h1
                  have hLp := (HS2.out.rows (by omega)).2 p hpN
                  rw [hmi, hdi] at hLi
                  rw [hmp, hdp] at hLp
                  have HLi := hide hLi
                  have HLp := hide hLp
                  have HMD : Hid (mSc (some p) b m i2 i2 = m i2 ∧ dS (some p) b m d i2 i2 = d i2) := ⟨hmi, hdi⟩
                  have hgg := (HS2.out.rows (by omega)).1
                  obtain ⟨ha9, hq1, hq2⟩ := HBN.out (by omega)
                  subst ha9
                  have cb := (hLi.1 b hb16).1
                  unfold maxLen at hq2
                  clear hmi hdi hmp hdp hLi hLp
                  obtain ⟨r2, hr2⟩ : ∃ r2 : Bool, (r2 = true ↔ i2 ≠ p ∧ (m i2).testBit b = true) := ⟨decide (i2 ≠ p ∧ (m i2).testBit b = true), by simp⟩
                  have HR2 := hide hr2
                  have hiN : (i2 : Int) < (N : Int) := by omega
                  have hpN' : (p : Int) < (N : Int) := by omega
                  clear hr2
                  go_upto_region 21 with fail
                  go_cut [86] (fun t wx => t = .bool r2 ∧ wr = wx)
                  case first =>
                    by_cases he : i2 = p
                    · obtain rfl : r2 = false := by
                        cases r2 with
                        | false => rfl
                        | true => exact absurd he (HR2.out.1 rfl).1
                      have hne : ((i2 : Int) != (p : Int)) = false := by rw [he]; simp
                      clear he
                      go_wp2
                      go_meet
                      exact ⟨by first | rfl | simp [hne], rfl⟩
                    · have hne : ((i2 : Int) != (p : Int)) = true := by rw [bne_iff_ne]; omega
                      cases hbt : (m i2).testBit b with
                      | true =>
                        obtain rfl : r2 = true := HR2.out.2 ⟨he, hbt⟩
                        rw [hbt] at cb
                        clear he hbt
                        go_wp2
                        go_meet
                        exact ⟨by first | rfl | simp [hne], rfl⟩
                      | false =>
                        obtain rfl : r2 = false := by
                          cases r2 with
                          | false => rfl
                          | true => have := (HR2.out.1 rfl).2; rw [hbt] at this; cases this
                        rw [hbt] at cb
                        clear he hbt
                        go_wp2
                        go_meet
                        exact ⟨by first | rfl | simp [hne], rfl⟩
                  case rest =>
                  obtain ⟨ht86, hw86⟩ := hcut
                  subst ht86 hw86
                  cases r2 with
                  | false =>
                    have HGo : Hid (ClS w g N (fun c => if c = b then foI (some p) else atN at_ c) (fun j => if some p = some j then true else us j) (mSc (some p) b m (i2 + 1)) (dS (some p) b m d (i2 + 1)) wr) := HS2.out.congr (fun _ _ => rfl) (fun _ _ => rfl) (fun j _ => by
                      unfold mSc
                      by_cases e : j = i2
                      · have hn : ¬ (j ≠ p ∧ (m j).testBit b = true) := fun h => by rw [e] at h; have := HR2.out.2 h; cases this
                        simp only
                        rw [if_neg (fun h => hn h.2), if_neg (fun h => hn h.2)]
                      · simp only
                        have e2 : (j < i2 + 1 ∧ j ≠ p ∧ (m j).testBit b = true) = (j < i2 ∧ j ≠ p ∧ (m j).testBit b = true) := by
                          rw [show (j < i2 + 1) = (j < i2) from propext ⟨fun h => by omega, fun h => by omega⟩]
                        simp only [e2]) (fun j _ => by
                      unfold dS
                      by_cases e : j = i2
                      · have hn : ¬ (j ≠ p ∧ (m j).testBit b = true) := fun h => by rw [e] at h; have := HR2.out.2 h; cases this
                        simp only
                        rw [if_neg (fun h => hn h.2), if_neg (fun h => hn h.2)]
                      · simp only
                        have e2 : (j < i2 + 1 ∧ j ≠ p ∧ (m j).testBit b = true) = (j < i2 ∧ j ≠ p ∧ (m j).testBit b = true) := by
                          rw [show (j < i2 + 1) = (j < i2) from propext ⟨fun h => by omega, fun h => by omega⟩]
                        simp only [e2])
                    clear cb
                    go_wp2
                    go_roundw
                    case rel => exact ⟨i2 + 1, by omega, by go_num, HGo.out⟩
                    case measure => simp [intOf]; omega
                  | true =>
                    obtain ⟨hne, hbt⟩ := HR2.out.1 rfl
                    have HNE : Hid (i2 ≠ p ∧ (m i2).testBit b = true) := ⟨hne, hbt⟩
                    have hsi := HSz.out i2 h1
                    have hsp := HSz.out p hpN
                    have OV := hide (fun W => over_ok (m i2).testBit (m p).testBit (d i2) (d p) W (by omega) (by rw [hsi, hsp]))
                    have HSet : Hid (∀ W, Below wr.heap.size wr W → ClS w g N (fun c => if c = b then foI (some p) else atN at_ c) (fun j => if some p = some j then true else us j) (mSc (some p) b m (i2 + 1)) (dS (some p) b m d (i2 + 1)) (W.setCells g (i2 * 17) (linC (fun j => (m i2).testBit j != (m p).testBit j) (xorB (d i2) (d p))).toList)) := fun W hW => by
                      refine ((HS2.out.step hW).setRow h1 (m i2 ^^^ m p) (xorB (d i2) (d p)) _ (fun j _ => by rw [Nat.testBit_xor])).congr (fun _ _ => rfl) (fun _ _ => rfl) (fun j _ => ?_) (fun j _ => ?_)
                      · unfold mSc
                        by_cases e : j = i2
                        · simp only [if_pos e]
                          rw [if_pos ⟨by omega, by rw [e]; exact hne, by rw [e]; exact hbt⟩, e]
                        · simp only [if_neg e]
                          have e2 : (j < i2 + 1 ∧ j ≠ p ∧ (m j).testBit b = true) = (j < i2 ∧ j ≠ p ∧ (m j).testBit b = true) := by
                            rw [show (j < i2 + 1) = (j < i2) from propext ⟨fun h => by omega, fun h => by omega⟩]
                          simp only [e2]
                      · unfold dS
                        by_cases e : j = i2
                        · simp only [if_pos e]
                          rw [if_pos ⟨by omega, by rw [e]; exact hne, by rw [e]; exact hbt⟩, e]
                        · simp only [if_neg e]
                          have e2 : (j < i2 + 1 ∧ j ≠ p ∧ (m j).testBit b = true) = (j < i2 ∧ j ≠ p ∧ (m j).testBit b = true) := by
                            rw [show (j < i2 + 1) = (j < i2) from propext ⟨fun h => by omega, fun h => by omega⟩]
                          simp only [e2]
                    have HTh : Hid (∀ W, Below wr.heap.size wr W → W.there g (i2 * 17) 17) := fun W hW => (HLi.out.below hW).there
                    have HRi := hide HLi.out.range
                    have HRp := hide HLp.out.range
                    have HCat := hide cat
                    have HQ : Hid (linC (m i2).testBit (d i2) = linC (m i2).testBit (d i2)) := rfl
                    have OV2 : Hid (∀ W, Calls Tryz.prog 85 #[.agg (linC (m i2).testBit (d i2)), .agg (linC (m p).testBit (d p))] W fun e w' => e = .returned (.agg (linC (fun j => (m i2).testBit j != (m p).testBit j) (xorB (d i2) (d p)))) ∧ Below W.heap.size W w') := OV.out
                    clear cb hne hbt hsi hsp HNE OV HQ cat
                    have HC1 : Hid ((linC (fun j => (m i2).testBit j != (m p).testBit j) (xorB (d i2) (d p))).size = 17) := rfl
                    have HC2 : Hid ((linC (fun j => (m i2).testBit j != (m p).testBit j) (xorB (d i2) (d p))).all (·.oneCell') = true) := linC_one _ _
                    have HCi : Hid ((linC (m i2).testBit (d i2)).size = 17) := rfl
                    have HCp : Hid ((linC (m p).testBit (d p)).size = 17) := rfl
                    generalize linC (m i2).testBit (d i2) = ci at *
                    generalize linC (m p).testBit (d p) = cp at *
                    generalize linC (fun j => (m i2).testBit j != (m p).testBit j) (xorB (d i2) (d p)) = cc at *
                    go_upto_region 22 with fail
                    refine region22 g (w.heap.size + 1) N c9 i2 b p ci cp cc rfl rfl rfl rfl rfl h1 hpN hN hb16 HCat.out HRi.out HRp.out HCi.out HCp.out (by rw [HC1.out]; exact HTh.out) HC1.out HC2.out OV2.out (fun _ _ _ _ _ h => h) ?_
                    intro w4 hb4
                    simp only [Act.put]
                    go_wp2
                    go_roundw
                    case rel => first | exact ⟨i2 + 1, by omega, by go_num, HSet.out w4 hb4⟩ | ((repeat apply Exists.intro); exact ⟨⟨i2 + 1, by omega, by go_num, HSet.out w4 hb4⟩, rfl⟩)
                    case measure => simp [intOf]; omega
                | false =>
                 as_aux_lemma =>
                  have HNext : Hid (ClInv w L k n g N (b + 1) wr) := by
                    cases fo with
                    | none =>
                      refine ⟨m, d, at_, us, HClr.out.skip (HNo.out b (Nat.le_refl _)) (HEnd.out rfl), fun c hc => HNo.out c (by omega), HSz.out, HS2.out.congr (fun c _ => ?_) (fun j _ => by rw [if_neg (by simp)]) (fun _ _ => rfl) (fun _ _ => rfl)⟩
                      by_cases e : c = b
                      · rw [if_pos e, e]; unfold atN; rw [HNo.out b (Nat.le_refl _)]; rfl
                      · rw [if_neg e]
                    | some p =>
                      obtain ⟨hpN, hpb, hpu⟩ := HFnd.out p rfl
                      have hiN : i2 = N := by
                        rcases Nat.lt_or_ge i2 N with h | h
                        · have := HRr.out.2 ⟨h, by simp⟩; cases this
                        · omega
                      have hS3 := HS2.out
                      rw [hiN] at hS3
                      refine ⟨mSc (some p) b m N, dS (some p) b m d N, fun c => if c = b then some p else at_ c, fun j => if j = p then true else us j, HClr.out.take hpN hpb hpu (fun j hj => ?_) (fun _ => rfl) (fun _ => rfl), fun c hc => ?_, fun j hj => ?_, hS3.congr (fun c _ => ?_) (fun j _ => ?_) (fun _ _ => rfl) (fun _ _ => rfl)⟩
                      · unfold mSc dS
                        simp only
                        by_cases q : j ≠ p ∧ (m j).testBit b = true
                        · rw [if_pos ⟨hj, q⟩, if_pos ⟨hj, q⟩, if_pos (show j ≠ p ∧ (rv (m j) (d j)).1.testBit b = true from q)]
                          exact rv_xor (by rw [HSz.out p hpN, HSz.out j hj])
                        · rw [if_neg (fun h => q h.2), if_neg (fun h => q h.2), if_neg (show ¬ (j ≠ p ∧ (rv (m j) (d j)).1.testBit b = true) from q)]
                      · show (if c = b then some p else at_ c) = none
                        rw [if_neg (by omega)]; exact HNo.out c (by omega)
                      · unfold dS
                        simp only
                        by_cases q : j < N ∧ j ≠ p ∧ (m j).testBit b = true
                        · rw [if_pos q, xorB_size]; exact HSz.out j hj
                        · rw [if_neg q]; exact HSz.out j hj
                      · unfold atN
                        by_cases e : c = b
                        · simp only [if_pos e]; rfl
                        · simp only [if_neg e]
                      · by_cases e : j = p
                        · rw [if_pos (by rw [e]), if_pos e]
                        · rw [if_neg (fun h => e (by injection h with h; exact h.symm)), if_neg e]
                  clear HS2 HEnd HFnd HRr cat
                  go_wp2
                  go_roundw
                  case rel => exact ⟨b + 1, by omega, by go_num, HNext.out⟩
                  case measure => simp [intOf]; omega
        · as_aux_lemma =>
          obtain rfl : b = k := by omega
          obtain ⟨m, d, at_, us, hClr, hno, hsz, hS⟩ := HIb.out
          have HClr := hide hClr
          have HNo := hide hno
          have HSz := hide hsz
          have HS := hide hS
          clear hClr hno hsz hS HIb
          have hkk : ¬ (b : Int) < (b : Int) := by omega
          have HRg : Hid ((wr.drew).rangeAt (w.heap.size + 1) 0 (arrC (atN at_)).toList) := HS.out.ats.range
          have HTh : Hid ((wr.drew).there w.heap.size 0 16) := HS.out.res.there
          have HLd : Hid ((loadVar 104 ⟨w.heap.size, 0, none⟩).run Tryz.prog ((wr.drew).setCells w.heap.size 0 (arrC (atN at_)).toList) = .ok (.agg (arrC (atN at_))) ((wr.drew).setCells w.heap.size 0 (arrC (atN at_)).toList)) := by
            have h9 := run_loadVar_mid (P := Tryz.prog) ((wr.drew).setCells w.heap.size 0 (arrC (atN at_)).toList) w.heap.size 0 104 (arrC (atN at_)).toList _ (ArrI.put (w := wr.drew) HS.out.res (atN at_)) Tryz.underlying104 rfl (by rw [arrC_len]; exact Tryz.sizeArr)
            rw [Array.toArray_toList] at h9
            exact h9
          have HLn : Hid (0 < N → ∃ g, a9 = some ⟨g, 0, none⟩ ∧ N ≤ c9 ∧ c9 ≤ maxLen ∧ Lns ((wr.drew).setCells w.heap.size 0 (arrC (atN at_)).toList) g N m d) := fun h0 => by
            obtain ⟨e1, e2, e3⟩ := HBN.out h0
            have hr := HS.out.rows h0
            exact ⟨g, e1, e2, e3, Lns.of_block (w := wr) hr.2 (heap_sets (w := wr.drew) _ _ g (by omega))⟩
          have HBe : Hid (Below w.heap.size w ((wr.drew).setCells w.heap.size 0 (arrC (atN at_)).toList)) := sets_below (Nat.le_refl _) _ _ _ HS.out.below.drew
          clear HS
          go_upto_region 23 with fail
          refine wp_region_any (by kernel_rfl) ?_
          change wpAny _ _ _ _ _ _ _ (World.drew _)
          refine wpAny_take (i := 0) (v := .slice a9 N c9) rfl (by kernel_rfl) (by kernel_rfl) (by kernel_rfl) (fun _ _ _ h => h) (Or.inl ⟨by rfl, fun w => by rfl⟩) ?_
          refine wpAny_take (i := 2) (v := .slice a9 N c9) rfl (by kernel_rfl) (by kernel_rfl) (by kernel_rfl) (fun _ _ _ h => h) (Or.inl ⟨by rfl, fun w => by rfl⟩) ?_
          refine wpAny_ready (rs := [1]) (by kernel_rfl) (by simp) (AllReady.cons rfl (fun K hK => ?_) AllReady.nil)
          rw [if_pos (by rfl)]
          refine wp_load_mid 104 _ rfl (w.heap.size + 1) 0 rfl (arrC (atN at_)).toList _ HRg.out Tryz.underlying104 rfl (by rw [arrC_len]; exact Tryz.sizeArr) ?_
          try go_simp
          refine hK _ _ ?_
          clear hK K
          refine wpAny_ready (rs := [3]) (by kernel_rfl) (by simp) (AllReady.cons rfl (fun K hK => ?_) AllReady.nil)
          rw [if_pos (by rfl)]
          refine wp_store_mid 104 _ _ rfl w.heap.size 0 (arrC (atN at_)) rfl (by first | rfl | (rw [Array.toArray_toList]; rfl)) HTh.out Tryz.sizeArr (arrC_one _) ?_
          try go_simp
          refine hK _ _ ?_
          clear hK K
          refine wpAny_done (by kernel_rfl) ?_ _
          go_wp2
          refine bodyPost_ret (v := .tuple #[.slice a9 N c9, .agg (arrC (atN at_))]) ?_ rfl ?_
          · exact results_cellB rfl _ _ _ ⟨w.heap.size, 0, none⟩ _ _ rfl rfl HLd.out
          · rw [HLL.out]
            exact ⟨a9, c9, m, d, at_, us, rfl, HClr.out, HNo.out, HSz.out, HLn.out, HBe.out⟩
theorem clearOk : ClearOk := clear_ok
end Go.Proofs.YtjgifjkdgoijmaaGreatDoor
