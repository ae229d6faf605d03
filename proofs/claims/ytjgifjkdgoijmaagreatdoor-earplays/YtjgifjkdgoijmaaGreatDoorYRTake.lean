/-
  Lemmas for the law above, joined into one text (RTake). No statement is proved here.
-/
import Derived.Test.YtjgifjkdgoijmaaGreatDoorYG7
import Derived.Deep.RegionLaw
import Derived.Deep.DrawnRows
import Derived.Deep.DeepCutAuto
namespace Go.Proofs.YtjgifjkdgoijmaaGreatDoor
open Go.RowKit Go.Maps
set_option linter.unusedVariables false
set_option maxRecDepth 100000
attribute [local go_sem ↓] Go.wp_at_zero Go.wp_at_succ

/-- What Take leaves: what is known by that, the state. -/
def RTook (M : Nat → Prop) (w : World) (base b k z : Nat) (p : PS) (T : List Nat) (d : Drp) (v : Value) (w' : World) : Prop :=
  ∃ q vL vT, Peels (setL k) ⟨p.known, p.B, p.L ++ [d]⟩ q ∧ RSt M w w' base b k q (T ++ [d.1]) vL vT ∧ Lsh w' v (came k p.known q.known) ∧ Good z q ∧ ∀ i, v.ownBlock = some i → w.heap.size ≤ i
/-- One was found, and told. -/
def RFound (M : Nat → Prop) (w : World) (base b k : Nat) (p q : PS) (T : List Nat) (v vT vo : Value) (wx : World) : Prop :=
  ∃ d x ao co, oneOf (setL k) q = some d ∧ lft (setL k) q.known d = [x] ∧ q.known x = false ∧ x < k ∧ vo = .slice ao (came k p.known (upd q.known x true)).length co ∧ RSt M w wx base b k (after (setL k) q d x) T v vT ∧ Lsh wx vo (came k p.known (upd q.known x true)) ∧ (came k p.known (upd q.known x true) = [] → vo = .slice none 0 0) ∧ ∀ i, vo.ownBlock = some i → w.heap.size ≤ i

set_option maxHeartbeats 4000000 in
theorem rtake_ok (M : Nat → Prop) (base b k seed : Nat) (p : PS) (T : List Nat) (vL vT : Value) (data : ByteArray) (w : World) (hk : 1 ≤ k) (hk2 : k ≤ 16) (h1 : 1 ≤ seed) (h2 : seed ≤ 10000)
    (hst : RSt M w w base b k p T vL vT) (hbase : base ≤ w.heap.size) (hLn : p.L.length ≤ 100) (hTn : T.length ≤ 100) (z : Nat) (hz : z ≤ 120) (hgood : Good z p) (hdz : data.size = z) (hkn : ∀ r, p.known r = true → r < 16) :
    Calls Tryz.prog 46 #[.pointer (some ⟨b, 0, none⟩), dropV seed data] w fun e w' => ∃ v, e = .returned v ∧ RTook M w base b k z p T (seed, data) v w' := by
  obtain ⟨i0, hi0, hz0, hz1, hz2⟩ := info_parts Tryz.infoDrop
  obtain ⟨i1, hi1, hy0, hy1, hy2⟩ := info_parts Tryz.infoInt
  have Hi0 := hide hi0
  have Hz0 := hide hz0
  have Hz1 := hide hz1
  have Hz2 := hide hz2
  have Hi1 := hide hi1
  have Hy0 := hide hy0
  have Hy1 := hide hy1
  have Hy2 := hide hy2
  clear hi0 hz0 hz1 hz2 hi1 hy0 hy1 hy2
  have hb0 : Below w.heap.size w (w.alloc (.cells #[.int .i64 (seed : Nat), .string data] 33)) := (Below.refl _ _).alloc (Nat.le_refl _) _
  have H0 := hide (hst.below hb0)
  have HD0 := hide (dropIn_new w seed data)
  have lb := hst.blk.lt
  have HaL : Hid (vL.ownBlock ≠ some w.heap.size) := fun e => by have := (hst.ownL.lt _ e).2; omega
  have HaT : Hid (vT.ownBlock ≠ some w.heap.size) := fun e => by have := (hst.ownT.lt _ e).2; omega
  have ld : w.heap.size < (w.alloc (.cells #[.int .i64 (seed : Nat), .string data] 33)).heap.size := by simp
  have HGood := hide hgood
  have HNo : Hid (∀ r, p.known r = true → r < 16) := fun r h => hkn r h
  clear hst hb0 hgood hkn
  unfold dropV
  go_enter Tryz.func46, Tryz.ntmps46
  go_upto_region 1 with fail
  generalize w.alloc (.cells #[.int .i64 (seed : Nat), .string data] 33) = w0 at *
  go_cut [22] (fun t wx => ∃ vL1, t = vL1 ∧ RSt M w wx base b k ⟨p.known, p.B, p.L ++ [(seed, data)]⟩ T vL1 vT ∧ DropIn wx w.heap.size seed data ∧ vT.ownBlock ≠ some w.heap.size)
  case first =>
    have lb0 : b < w0.heap.size := by omega
    have cL0 := H0.out.blk.waits.1
    obtain ⟨⟨cs, _⟩, cd, _⟩ := HD0.out
    simp only [Nat.zero_add] at cd
    have HD1 : Hid (RSt M w (w0.alloc (.cells #[.int .i64 (seed : Nat), .string data] 33)).drew base b k p T vL vT) := H0.out.below ((Below.refl _ w0).alloc (Nat.le_refl _) _).drew
    have HDD : Hid (DropIn (w0.alloc (.cells #[.int .i64 (seed : Nat), .string data] 33)).drew w.heap.size seed data) := HD0.out.below ((Below.refl _ w0).alloc (Nat.le_refl _) _).drew
    have HaB := hide H0.out.apL
    have hbase0 : base ≤ w0.heap.size := by omega
    go_region_law
      ((refine step_append_lies _ (by rfl) _ _ _ (by rfl) base 33 i0 _ 2 24 Tryz.underlying48 Hi0.out Hz0.out Hz1.out Hz2.out rfl (by omega) vL p.L.length (dC p.L) (by rfl) HD1.out.ownL
          ⟨w0.heap.size, 0, none⟩ 1 1 [.int .i64 (seed : Nat), .string data] (by rfl) (by rfl) (World.news_of_block (cs := #[.int .i64 (seed : Nat), .string data]) (t := 33) (fr := (0, 0)) (heap_alloc_new w0 _)) (by simp [Value.oneCell'])
          (by omega) (by unfold maxLen; omega) (by omega) (by simp; omega) (w0.heap.size + 1) (by simp) ?_; intro gg cap w1 hown1 hgrow hat hlt; have hfz : w1.frozen? ⟨b, 33, none⟩ = false := (hgrow.frozen_far ⟨b, 33, none⟩ (by simp; omega) (Ne.symm HaB.out)).trans HD1.out.blk.waits.2; have hcz : w1.cell? ⟨b, 33, none⟩ = some vL := (hgrow.cell_far ⟨b, 33, none⟩ (by simp; omega) (Ne.symm HaB.out)).trans HD1.out.blk.waits.1))
    all_goals
      go_wp2_with fail
      go_meet
      refine ⟨_, rfl, HD1.out.storeL (L := p.L ++ [(seed, data)]) hgrow (Or.inr rfl) (by rw [dC_snoc, List.length_append]; exact hown1) ?_, ?_, HaT.out⟩
      · rcases hat with e | e
        · exact Or.inr (Or.inl e.symm)
        · exact Or.inr (Or.inr ⟨gg, rfl, by simp; omega⟩)
      · refine HDD.out.of_block ?_
        rw [Below.heap_setCell _ _ _ _ (by simp; omega)]
        exact hgrow.block _ (by simp; omega) (fun e => HaL.out e.symm)
  case rest =>
  obtain ⟨vL1, hvl, hs1, hd1, _⟩ := hcut
  clear hvl
  have H1 := hide hs1
  have HDd := hide hd1
  have hsz1 := hs1.kept.size
  clear hs1 hd1 H0 HD0 HaL ld
  go_upto_region 2 with fail
  go_cut [33] (fun t wx => ∃ vT1, t = vT1 ∧ RSt M w wx base b k ⟨p.known, p.B, p.L ++ [(seed, data)]⟩ (T ++ [seed]) vL1 vT1)
  case first =>
    have lb0 : b < wc.heap.size := by omega
    have cT0 := H1.out.blk.taken.1
    obtain ⟨⟨cs, _⟩, _⟩ := HDd.out
    have HD1 : Hid (RSt M w (wc.alloc (.cells #[.int .i64 (seed : Nat)] 3)).drew base b k ⟨p.known, p.B, p.L ++ [(seed, data)]⟩ T vL1 vT) := H1.out.below ((Below.refl _ wc).alloc (Nat.le_refl _) _).drew
    have HaB := hide H1.out.apT
    have hbase0 : base ≤ wc.heap.size := by omega
    go_region_law
      ((refine step_append_lies _ (by rfl) _ _ _ (by rfl) base 3 i1 _ 1 8 Tryz.underlying22 Hi1.out Hy0.out Hy1.out Hy2.out rfl (by omega) vT T.length (toV T) (by rfl) HD1.out.ownT
          ⟨wc.heap.size, 0, none⟩ 1 1 [.int .i64 (seed : Nat)] (by rfl) (by rfl) (World.news_of_block (cs := #[.int .i64 (seed : Nat)]) (t := 3) (fr := (0, 0)) (heap_alloc_new wc _)) (by simp [Value.oneCell'])
          (by omega) (by unfold maxLen; omega) (by omega) (by simp; omega) (wc.heap.size + 1) (by simp) ?_; intro gg cap w1 hown1 hgrow hat hlt; have hfz : w1.frozen? ⟨b, 34, none⟩ = false := (hgrow.frozen_far ⟨b, 34, none⟩ (by simp; omega) (Ne.symm HaB.out)).trans HD1.out.blk.taken.2; have hcz : w1.cell? ⟨b, 34, none⟩ = some vT := (hgrow.cell_far ⟨b, 34, none⟩ (by simp; omega) (Ne.symm HaB.out)).trans HD1.out.blk.taken.1))
    all_goals
      go_wp2_with fail
      go_meet
      refine ⟨_, rfl, HD1.out.storeT (T' := T ++ [seed]) hgrow (by rw [List.length_append, toV, List.map_append]; exact hown1) ?_⟩
      rcases hat with e | e
      · exact Or.inl e.symm
      · exact Or.inr ⟨gg, rfl, by simp; omega⟩
  case rest =>
  obtain ⟨vT1, hvt, hs2⟩ := hcut
  clear hvt
  have H2 := hide hs2
  have hsz2 := hs2.kept.size
  clear hs2 H1 HDd HaT hsz1
  have HP1 : Hid (∀ a, Peels (setL k) ⟨p.known, p.B, p.L ++ [(seed, data)]⟩ a → Peels (setL k) ⟨p.known, p.B, p.L ++ [(seed, data)]⟩ a) := fun a h => h
  have HG1 : Hid (Good z ⟨p.known, p.B, p.L ++ [(seed, data)]⟩) := ⟨fun d hd => by
    rcases List.mem_append.1 hd with h | h
    · exact HGood.out.1 d h
    · rw [List.mem_singleton.1 h]; exact ⟨h1, h2, hdz⟩, HGood.out.2⟩
  have HC0 : Hid (came k p.known p.known = []) := List.filter_eq_nil_iff.2 fun r _ => by cases p.known r <;> simp
  have hq1 : (p.L ++ [(seed, data)]).length ≤ p.L.length + 1 := by simp
  go_wp2_with fail
  go_loopg [5, 6] (unk k p.known + 2) (fun g vo vb wr => ∃ (q : PS) (vLq : Value) (r : Bool) (ao : Option Addr) (co : Nat), vb = .bool r ∧ vo = .slice ao (came k p.known q.known).length co ∧ RSt M w wr base b k q (T ++ [seed]) vLq vT1 ∧ Lsh wr vo (came k p.known q.known) ∧ (came k p.known q.known = [] → vo = .slice none 0 0) ∧ (∀ i, vo.ownBlock = some i → w.heap.size ≤ i) ∧ Good z q ∧ q.L.length ≤ p.L.length + 1 ∧ (∀ i, p.known i = true → q.known i = true) ∧ (r = true → (∀ a, Peels (setL k) q a → Peels (setL k) ⟨p.known, p.B, p.L ++ [(seed, data)]⟩ a) ∧ unk k q.known + 2 ≤ g) ∧ (r = false → Peels (setL k) ⟨p.known, p.B, p.L ++ [(seed, data)]⟩ q ∧ 1 ≤ g))
  case atStart =>
    refine ⟨⟨p.known, p.B, p.L ++ [(seed, data)]⟩, vL1, true, none, 0, rfl, by rw [HC0.out]; rfl, H2.out, ?_, fun _ => rfl, (fun i h => by cases h), HG1.out, hq1, (fun i h => h), (fun _ => ⟨HP1.out, Nat.le_refl _⟩), (fun h => by cases h)⟩
    rw [HC0.out]
    exact ⟨none, 0, rfl, by simp, by unfold maxLen; simp, fun h => by simp at h⟩
  case round =>
    obtain ⟨q, vLq, r, ao, co, rfl, rfl, hs, hlo, hnil, hob, hgd, hql, hgr, hT, hF⟩ := hrel
    have HS := hide hs
    have HLo := hide hlo
    have HNil := hide hnil
    have HOb := hide hob
    have HGd := hide hgd
    have HGr := hide hgr
    have HT := hide hT
    have HF := hide hF
    clear hs hlo hnil hob hgd hgr hT hF
    cases r with
    | false =>
      have HFf := hide (HF.out rfl)
      clear HT HF
      go_wp2
      go_ret
      exact ⟨_, rfl, q, vLq, vT1, (HFf.out).1, HS.out, HLo.out, HGd.out, HOb.out⟩
    | true =>
      have HTt := hide (HT.out rfl)
      clear HT HF
      obtain ⟨aL, cL, rfl, hcl1, hcl2, hcl3, hcl4⟩ := own_drops HS.out.ownL
      have HC3 := hide hcl3
      have HC4 := hide hcl4
      have ckL := HS.out.blk.waits.1
      have hszr := HS.out.kept.size
      unfold maxLen at hcl2
      clear hcl3 hcl4
      have HLn : Hid (q.L.length ≤ 101) := by unfold Hid; omega
      go_wp2_with fail
      go_loopw [7, 8] (fun v i wx => ∃ (j : Nat) (aA : Option Addr) (cA : Nat), j ≤ q.L.length ∧ i = .int .i64 j ∧ v = .slice aA (sift (setL k) q.known (q.L.take j)).length cA ∧ wx.ownsRow wr.heap.size 33 2 v (sift (setL k) q.known (q.L.take j)).length (dC (sift (setL k) q.known (q.L.take j))) ∧ Below wr.heap.size wr wx) (fun _ i _ => q.L.length - (intOf i).toNat)
      case atStart => exact ⟨0, none, 0, Nat.zero_le _, rfl, rfl, World.ownsRow_nil _ _ _ _, Below.refl _ _⟩
      case round =>
        obtain ⟨j, aA, cA, hj, rfl, rfl, hA, hb⟩ := hrel
        have HA := hide hA
        have HBx := hide hb
        have ck2 := cell_below hb ckL
        have hbs := hb.size
        have hsl : (sift (setL k) q.known (q.L.take j)).length ≤ 101 := Nat.le_trans (sift_len _) (by rw [List.length_take]; have := HLn.out; omega)
        clear hA hb
        by_cases hlt : j < q.L.length
        · obtain ⟨gL, rfl⟩ := HC3.out (by omega)
          have hcd := HC4.out gL rfl j hlt
          have hc1 := cell_below HBx.out hcd.1
          have hc2 := cell_below HBx.out hcd.2
          have hgd := HGd.out.1 _ (dAt_mem hlt)
          have K := hide (rleft_ok b k (dAt q.L j).1 q.known q.B _ _ (dAt q.L j).2 wr hk hk2 hgd.1 hgd.2.1 (HS.out.blk.below HBx.out))
          have HSn := hide (sift_snoc (S := setL k) (kn := q.known) hlt)
          have hjn' : (j : Int) < (q.L.length : Int) := by omega
          have hln := HLn.out
          clear hgd hcd
          have ed : dAt q.L j = ((dAt q.L j).1, (dAt q.L j).2) := rfl
          rw [← ed] at K
          generalize dAt q.L j = dj at *
          obtain ⟨sj, bj⟩ := dj
          simp only at hc1 hc2 K
          generalize hFx : sift (setL k) q.known (q.L.take j) = Fx at *
          go_wp2_with fail
          refine (K.out).mono ?_
          rintro e w2 ⟨vx, rfl, hx, hb2, _⟩
          obtain ⟨ax, cx, rfl, hx1, hx2, hx3⟩ := hx
          unfold maxLen at hx2
          have HB2 := hide (below_two HBx.out hb2)
          have HA2 := hide (own_under' HA.out hb2)
          have c33 := cell_below hb2 ck2
          have c1' := cell_below hb2 hc1
          have c2' := cell_below hb2 hc2
          have hbs2 := HB2.out.size
          clear hb2 hx3 HA HBx hc1 hc2 ck2 K hbs
          generalize (lft (setL k) q.known (sj, bj)).length = nx at *
          by_cases hx0 : nx = 0
          · subst hx0
            rw [if_pos rfl, List.append_nil] at HSn
            go_wp2_with fail
            go_roundw
            case rel =>
              have R : j + 1 ≤ q.L.length ∧ Value.int .i64 ((j : Int) + 1) = .int .i64 ((j + 1 : Nat) : Int) ∧ Value.slice aA Fx.length cA = .slice aA (sift (setL k) q.known (q.L.take (j + 1))).length cA ∧ w2.ownsRow _ 33 2 (.slice aA Fx.length cA) (sift (setL k) q.known (q.L.take (j + 1))).length (dC (sift (setL k) q.known (q.L.take (j + 1)))) ∧ Below _ _ w2 :=
                ⟨by omega, by simp, by rw [HSn.out], by rw [HSn.out]; exact HA2.out, HB2.out⟩
              first
                | exact ⟨j + 1, aA, cA, R⟩
                | ((repeat apply Exists.intro); exact ⟨⟨j + 1, aA, cA, R⟩, rfl⟩)
            case measure => simp [intOf]; omega
          · have hx0' : (0 : Int) < (nx : Int) := by omega
            rw [if_neg hx0] at HSn
            go_wp2_with (at_builtin; refine wpList_append_lies _ rfl _ _ 48 rfl _ 33 i0 _ 2 24 Tryz.underlying48 Hi0.out Hz0.out Hz1.out Hz2.out rfl (by decide) _ _ _ rfl (HA2.out.alloc _) ⟨w2.heap.size, 0, none⟩ 1 1 [.int .i64 (sj : Nat), .string bj] rfl rfl (World.news_of_block (cs := #[.int .i64 (sj : Nat), .string bj]) (t := 33) (fr := (0, 0)) (heap_alloc_new w2 _)) (by simp [Value.oneCell']) (by decide) (by unfold maxLen; omega) (by omega) (by simp; omega) _ rfl ?_; intro g3 cap3 w3 hown3 hgrow3 hat3 hlt3)
            refine ⟨⟨j + 1, some ⟨g3, 0, none⟩, cap3, by omega, by simp, ?_, ?_, ?_⟩, by simp [intOf]; omega⟩
            · rw [HSn.out, List.length_append]; rfl
            · rw [HSn.out, List.length_append, dC_snoc]; exact hown3
            · exact (HB2.out.alloc hbs2 _).grown hgrow3 (by simp; omega) (fun q hq => (HA2.out.lt q hq).1)
        · obtain rfl : j = q.L.length := by omega
          rw [List.take_length] at HA hsl ⊢
          have fz2 := HBx.out.frozen HS.out.blk.lt (p := ⟨b, 33, none⟩)
          rw [HS.out.blk.waits.2] at fz2
          have hvb : Hid (∀ i, (Value.slice aA (sift (setL k) q.known q.L).length cA).ownBlock = some i → w.heap.size ≤ i) := fun i hi => Nat.le_trans hszr (HA.out.lt i hi).1
          have H3 := hide (HS.out.storeL (L := sift (setL k) q.known q.L) (below_grown HBx.out) (Or.inl rfl) (own_mono HA.out (by omega)) (by
            cases e : (Value.slice aA (sift (setL k) q.known q.L).length cA).ownBlock with
            | none => exact Or.inl rfl
            | some i => exact Or.inr (Or.inr ⟨i, rfl, (HA.out.lt i e).1⟩)))
          have HLo3 := hide ((HLo.out.below HBx.out).set_far (a := ⟨b, 33, none⟩) (fun e => by have h9 := HOb.out b e; have := lb; omega) (.slice aA (sift (setL k) q.known q.L).length cA))
          obtain ⟨a3, c3, hv3, hcc1, hcc2, hcc3, hcc4⟩ := own_drops H3.out.ownL
          injection hv3 with ea _ ec
          subst ea ec
          have HC3' := hide hcc3
          have HC4' := hide hcc4
          unfold maxLen at hcc2
          have hszf : wr.heap.size ≤ (wr.setCell ⟨b, 33, none⟩ (.slice aA (sift (setL k) q.known q.L).length cA)).heap.size := by simp
          have hszw : w.heap.size ≤ wr.heap.size := by omega
          clear hcc3 hcc4 HC3 HC4 HS HLo HBx HA
          have hQL : ∀ d ∈ sift (setL k) q.known q.L, 1 ≤ d.1 ∧ d.1 ≤ 10000 ∧ d.2.size = z := fun d hd => HGd.out.1 d (mem_sift.1 hd).1
          have HQL := hide hQL
          clear hQL
          generalize hL' : sift (setL k) q.known q.L = L' at *
          have HL' := hide hL'
          clear hL'
          go_wp2_with fail
          generalize wr.setCell ⟨b, 33, none⟩ (.slice aA L'.length cA) = w3 at *
          go_loopw [5, 6, 10] (fun vo vb vi wx => ∃ j : Nat, j ≤ L'.length ∧ vi = .int .i64 j ∧ ((vb = .bool false ∧ vo = .slice ao (came k p.known q.known).length co ∧ Below w3.heap.size w3 wx ∧ ∀ i, i < j → (lft (setL k) q.known (dAt L' i)).length ≠ 1) ∨ (vb = .bool true ∧ RFound M w base b k p q (T ++ [seed]) (.slice aA L'.length cA) vT1 vo wx))) (fun _ _ vi _ => L'.length - (intOf vi).toNat)
          case atStart => exact ⟨0, Nat.zero_le _, rfl, Or.inl ⟨rfl, rfl, Below.refl _ _, fun i hi => absurd hi (Nat.not_lt_zero _)⟩⟩
          case round =>
            obtain ⟨j, hj, rfl, hor⟩ := hrel
            rcases hor with ⟨rfl, rfl, hb, hno⟩ | ⟨rfl, hfd⟩
            · have HNo3 := hide hno
              have HB3 := hide hb
              have hbs := hb.size
              clear hno hb
              by_cases hlt : j < L'.length
              · obtain ⟨gA, rfl⟩ := HC3'.out (by omega)
                have hcd := HC4'.out gA rfl j hlt
                have hc1 := cell_below HB3.out hcd.1
                have hc2 := cell_below HB3.out hcd.2
                have hgd := HQL.out _ (dAt_mem hlt)
                have K := hide (rleft_ok b k (dAt L' j).1 q.known q.B _ _ (dAt L' j).2 wr hk hk2 hgd.1 hgd.2.1 (H3.out.blk.below HB3.out))
                have hjn' : (j : Int) < (L'.length : Int) := by omega
                have HDm : Hid (dAt L' j ∈ L') := dAt_mem hlt
                have HDj := hide (show dAt L' j = dAt L' j from rfl)
                have ed : dAt L' j = ((dAt L' j).1, (dAt L' j).2) := rfl
                rw [← ed] at K
                clear hcd ed
                generalize hdj : dAt L' j = dj at *
                have HDJ := hide hdj
                clear hdj HDj
                obtain ⟨sj, bj⟩ := dj
                simp only at hc1 hc2 K hgd
                go_wp2_with fail
                refine (K.out).mono ?_
                rintro e w2 ⟨vx, rfl, hx, hb2, hfr⟩
                have HLx := hide hx
                have HFr := hide hfr
                clear hfr
                obtain ⟨ax, cx, rfl, hx1, hx2, hx3⟩ := hx
                unfold maxLen at hx2
                have HB2 := hide (below_two HB3.out hb2)
                have c1' := cell_below hb2 hc1
                have c2' := cell_below hb2 hc2
                clear hb2 hx3 hc1 hc2 K hbs
                by_cases hx0 : (lft (setL k) q.known (sj, bj)).length = 1
                · obtain ⟨x, hxl⟩ := List.length_eq_one_iff.1 hx0
                  have HXL := hide hxl
                  rw [hxl] at HLx hx1 ⊢
                  obtain ⟨ax', cx', hvx, _, _, hlx⟩ := HLx.out
                  obtain ⟨gx, cx2, hvx2, _, _, hcx⟩ := hlx (by simp)
                  rw [hvx2] at hvx
                  injection hvx2 with e1 e2 e3
                  subst e1 e3
                  have hgxb : b ≠ gx := fun e => by
                    have h9 := HFr.out gx rfl
                    have h10 := (H3.out.blk.below HB3.out).lt
                    omega
                  have hcx0 := hcx 0 (by simp)
                  simp only [Nat.add_zero, List.getD_cons_zero] at hcx0
                  have hxm : x ∈ lft (setL k) q.known (sj, bj) := by rw [hxl]; simp
                  have hxk : x < k := setL_lt hk hgd.1 (mem_lft.1 hxm).1
                  have HXN := hide (mem_lft.1 hxm).2
                  have HXS := hide (mem_lft.1 hxm).1
                  have HKn : Hid (∀ r ∈ setL k sj, r ≠ x → q.known r = true) := fun r hr hne => by
                    cases e : q.known r with
                    | true => rfl
                    | false =>
                      have : r ∈ lft (setL k) q.known (sj, bj) := mem_lft.2 ⟨hr, e⟩
                      rw [hxl] at this
                      exact absurd (List.mem_singleton.1 this) hne
                  have RS := hide (fun w1 => rset_ok k sj w1 hk hk2 hgd.1 hgd.2.1)
                  have ck0 := (H3.out.blk.below HB2.out).kk
                  have hbz := hgd.2.2
                  have HSLt : Hid (∀ r ∈ setL k sj, r < k) := fun r hr => setL_lt hk hgd.1 hr
                  have hsl16 := (setL_len hk hk2 hgd.1 hgd.2.1).2
                  clear hx0 hxl hcx hlx hvx hx1 HLx hxm
                  simp only [List.length_singleton]
                  go_wp2_with fail
                  go_region_held3 (fun w' => w'.cell? ⟨b, 0, none⟩ = some (.int .i64 k) ∧ w'.cell? ⟨gA, j * 2, none⟩ = some (.int .i64 (sj : Nat))) (first | go_keep | exact ⟨cell_below hb4 ck0, cell_below hb4 c1'⟩)
                    (first | (go_at_call 49; refine (RS.out _).mono ?_; rintro e w4 ⟨vs, rfl, hl4, hb4⟩))
                  obtain ⟨gs, cs, rfl, hs1, hs2, hs3⟩ := hl4
                  have hb4' : Below w2.heap.size w2 w4 := ⟨hb4.os, hb4.tape, hb4.output, hb4.size, hb4.block⟩
                  have HB4 := hide (below_two HB2.out hb4')
                  have HCs := hide hs3
                  have HCx := hide (cell_below hb4' hcx0)
                  have HBl := hide (H3.out.blk.below (below_two HB2.out hb4'))
                  unfold maxLen at hs2
                  clear hb4 hb4' hs3 hcx0 c1' c2' ck0 RS
                  generalize hl4 : setL k sj = l4 at *
                  have HL4 := hide hl4
                  clear hl4
                  go_wp2_with fail
                  go_loopw [12, 14] (fun vb vi wx => ∃ jj : Nat, jj ≤ l4.length ∧ vi = .int .i64 jj ∧ vb = .string (outB q.B x (l4.take jj) bj) ∧ Below w4.heap.size w4 wx) (fun _ vi _ => l4.length - (intOf vi).toNat)
                  case atStart => exact ⟨0, Nat.zero_le _, rfl, rfl, Below.refl _ _⟩
                  case round =>
                    obtain ⟨jj, hjj, rfl, rfl, hb5⟩ := hrel
                    have HB5 := hide hb5
                    clear hb5
                    by_cases hlt4 : jj < l4.length
                    · have hcj := cell_below HB5.out (HCs.out jj hlt4)
                      have hcx5 := cell_below HB5.out HCx.out
                      have hrm : l4.getD jj 0 ∈ l4 := by rw [show l4.getD jj 0 = l4[jj] by simp [List.getD, hlt4]]; exact List.getElem_mem hlt4
                      have hrk := HSLt.out _ hrm
                      have hjl' : (jj : Int) < (l4.length : Int) := by omega
                      have et : l4.take (jj + 1) = l4.take jj ++ [l4.getD jj 0] := by rw [List.take_add_one]; simp [List.getD, hlt4]
                      have HO := hide (outB_snoc q.B x (l4.getD jj 0) (l4.take jj) bj)
                      rw [← et] at HO
                      have hoz : (outB q.B x (l4.take jj) bj).size = z := by rw [outB_size]; exact hbz
                      simp only [Nat.zero_add] at hcj
                      clear et
                      generalize hob : outB q.B x (l4.take jj) bj = ob at *
                      by_cases hrx : l4.getD jj 0 = x
                      · rw [hrx] at hcj
                        rw [Hid, if_pos hrx] at HO
                        have HO' := hide HO
                        clear HO hrx hrm hob
                        go_wp2_with fail
                        go_quiet (fail)
                        go_wp2_with fail
                        go_roundw
                        case rel =>
                          have R : jj + 1 ≤ l4.length ∧ Value.int .i64 ((jj : Int) + 1) = .int .i64 ((jj + 1 : Nat) : Int) ∧ Value.string ob = .string (outB q.B x (l4.take (jj + 1)) bj) ∧ Below w4.heap.size w4 (wr.drewN nq) := ⟨by omega, by simp, by rw [HO'.out], below_drewN HB5.out _⟩
                          first
                            | exact ⟨jj + 1, R⟩
                            | ((repeat apply Exists.intro); exact ⟨⟨jj + 1, R⟩, rfl⟩)
                        case measure => simp [intOf]; omega
                      · rw [Hid, if_neg hrx] at HO
                        have HO' := hide HO
                        have hkr := HKn.out _ hrm hrx
                        have X := hide (fun w1 => rxor_ok ob (q.B (l4.getD jj 0)) w1 (by omega) (by rw [hoz]; exact HGd.out.2 _ hkr))
                        have cB := cell_below HB5.out (HBl.out.blocks (l4.getD jj 0) (by omega)).1
                        have hne1 : (((l4.getD jj 0 : Nat) : Int) == (x : Int)) = false := by rw [beq_eq_false_iff_ne]; omega
                        have hne2 : (((l4.getD jj 0 : Nat) : Int) != (x : Int)) = true := by rw [bne_iff_ne]; omega
                        clear HO hrx hrm hob hkr
                        generalize l4.getD jj 0 = rr at *
                        generalize q.B rr = Br at *
                        generalize hxo : xorB ob Br = xo at *
                        go_wp2_with fail
                        go_quiet (fail)
                        have hb6 := below_drewN (Below.refl wr.heap.size wr) nq
                        have cj6 : (wr.drewN nq).cell? ⟨gs, jj, none⟩ = some (.int .i64 (rr : Nat)) := hcj
                        have cB6 : (wr.drewN nq).cell? ⟨b, 17 + rr, none⟩ = some (.string Br) := cB
                        have HB6 := hide (below_drewN HB5.out nq)
                        clear hcj hcx5 cB hb6
                        generalize wr.drewN nq = w6 at *
                        obtain ⟨ι, F, hF⟩ := fam_some w6
                        have HF := hide hF
                        have hne := hF.ne
                        have f1 := hF.cell cj6
                        have f2 := hF.cell cB6
                        clear hF cj6 cB6
                        go_wp2_with fail
                        refine HF.out.region (by kernel_rfl) (by kernel_rfl) ?_
                        repeat (go_big_quiet_step (exact HF.out.call (X.out _)))
                        refine wpQuiet_nil ?_
                        intro wq hw'
                        obtain ⟨i2, hw''⟩ := hw'
                        subst hw''
                        have HB7 := hide (below_two HB6.out (HF.out.above i2))
                        clear f1 f2
                        generalize F i2 = w7 at *
                        go_wp2_with fail
                        go_roundw
                        case rel =>
                          have R : jj + 1 ≤ l4.length ∧ Value.int .i64 ((jj : Int) + 1) = .int .i64 ((jj + 1 : Nat) : Int) ∧ Value.string xo = .string (outB q.B x (l4.take (jj + 1)) bj) ∧ Below w4.heap.size w4 w7 := ⟨by omega, by simp, by rw [HO'.out], HB7.out⟩
                          first
                            | exact ⟨jj + 1, R⟩
                            | ((repeat apply Exists.intro); exact ⟨⟨jj + 1, R⟩, rfl⟩)
                        case measure => simp [intOf]; omega
                    · obtain rfl : jj = l4.length := by omega
                      have hcx5 := cell_below HB5.out HCx.out
                      have HR5 := hide (H3.out.below (below_two HB4.out HB5.out))
                      have HLo5 := hide (HLo3.out.below (below_two HB4.out HB5.out))
                      have ckn := (HR5.out.blk.known x (by omega)).1
                      have fkn := (HR5.out.blk.known x (by omega)).2
                      have hxi0 : (0 : Int) ≤ (x : Int) := by omega
                      have hxi1 : (x : Int) < 16 := by omega
                      rw [List.take_length] at *
                      generalize hob : outB q.B x l4 bj = ob at *
                      have HOB := hide hob
                      clear hob HB5
                      go_wp2_with fail
                      go_region
                      have hcx8 : (wr.setCell ⟨b, 1 + x, none⟩ (.bool true)).drew.cell? ⟨gx, 0, none⟩ = some (.int .i64 (x : Nat)) := by
                        show (wr.setCell ⟨b, 1 + x, none⟩ (.bool true)).cell? ⟨gx, 0, none⟩ = _
                        rw [World.cell?_setCell_other _ _ _ _ (fun e => hgxb (by injection e))]
                        simpa using hcx5
                      have hb8 := HR5.out.blk.setKnown (x := x) (by omega)
                      have cB8 : (wr.setCell ⟨b, 1 + x, none⟩ (.bool true)).drew.cell? ⟨b, 17 + x, none⟩ = some (.string (q.B x)) := (hb8.blocks x (by omega)).1
                      have fB8 : (wr.setCell ⟨b, 1 + x, none⟩ (.bool true)).drew.frozen? ⟨b, 17 + x, none⟩ = false := (hb8.blocks x (by omega)).2
                      have HR9 : Hid (RSt M w (((wr.setCell ⟨b, 1 + x, none⟩ (.bool true)).drew).setCell ⟨b, 17 + x, none⟩ (.string ob)).drew base b k ⟨upd q.known x true, upd q.B x ob, L'⟩ (T ++ [seed]) (.slice (some ⟨gA, 0, none⟩) L'.length cA) vT1) :=
                        (HR5.out.tell (x := x) (by omega) ob).below ⟨rfl, rfl, rfl, Nat.le_refl _, fun _ _ => rfl⟩
                      have hvob : Hid ((Value.slice ao (came k p.known q.known).length co).ownBlock ≠ some b) := fun e => by have h9 := HOb.out b e; omega
                      have HLo9 : Hid (Lsh (((wr.setCell ⟨b, 1 + x, none⟩ (.bool true)).drew).setCell ⟨b, 17 + x, none⟩ (.string ob)).drew (.slice ao (came k p.known q.known).length co) (came k p.known q.known)) :=
                        ((HLo5.out.set_far (a := ⟨b, 1 + x, none⟩) hvob.out (.bool true)).set_far (a := ⟨b, 17 + x, none⟩) hvob.out (.string ob)).below ⟨rfl, rfl, rfl, Nat.le_refl _, fun _ _ => rfl⟩
                      have hcx9 : (((wr.setCell ⟨b, 1 + x, none⟩ (.bool true)).drew).setCell ⟨b, 17 + x, none⟩ (.string ob)).drew.cell? ⟨gx, 0, none⟩ = some (.int .i64 (x : Nat)) := by
                        show (((wr.setCell ⟨b, 1 + x, none⟩ (.bool true)).drew).setCell ⟨b, 17 + x, none⟩ (.string ob)).cell? ⟨gx, 0, none⟩ = _
                        rw [World.cell?_setCell_other _ _ _ _ (fun e => hgxb (by injection e))]
                        exact hcx8
                      clear hcx5 ckn fkn hb8 HR5 HLo5
                      generalize hw8 : (wr.setCell ⟨b, 1 + x, none⟩ (.bool true)).drew = w8 at *
                      clear hw8
                      go_wp2_with fail
                      go_region
                      generalize (w8.setCell ⟨b, 17 + x, none⟩ (.string ob)).drew = w9 at *
                      clear hcx8 cB8 fB8
                      have hpx : Hid (p.known x = false) := by
                        unfold Hid
                        cases e : p.known x with
                        | false => rfl
                        | true => have := HGr.out x e; rw [HXN.out] at this; cases this
                      have P := hide (rput_came hk2 hxk hpx.out HXN.out HLo9.out HNil.out)
                      have HCN := hide (came_some (k := k) hxk hpx.out HXN.out)
                      have hco := HLo9.out
                      obtain ⟨a9, c9, hv9, h91, h92, _⟩ := hco
                      injection hv9 with ea9 _ ec9
                      subst ea9 ec9
                      unfold maxLen at h92
                      have hcl := h91
                      go_wp2_with fail
                      refine (P.out).mono ?_
                      rintro e w10 ⟨v10, rfl, hl10, hb10, hf10⟩
                      have HL10 := hide hl10
                      have HB10 := hide hb10
                      have HF10 := hide hf10
                      obtain ⟨g10, cap10, rfl, hq10, hcap10, _⟩ := hl10
                      unfold maxLen at hcap10
                      have hcap10' := hide hcap10
                      have hq10' := hide hq10
                      clear hb10 hf10 hcx9 hq10
                      go_wp2_with fail
                      refine ⟨⟨j + 1, by omega, by simp, Or.inr ⟨rfl, (sj, bj), x, _, _, ?_, HXL.out, HXN.out, hxk, rfl, ?_, ⟨_, _, rfl, hq10'.out, by unfold maxLen; exact hcap10'.out, fun _ => HL10.out⟩, fun h => absurd h HCN.out, fun i hi => Nat.le_trans HR9.out.kept.size (HF10.out i hi)⟩⟩, by simp [intOf]; omega⟩
                      · show (sift (setL k) q.known q.L).find? _ = some (sj, bj)
                        rw [HL'.out, ← HDJ.out]
                        exact find_first hlt (fun i hi => by simpa using HNo3.out i hi) (by rw [HDJ.out, HXL.out]; rfl)
                      · have e : after (setL k) q (sj, bj) x = ⟨upd q.known x true, upd q.B x ob, L'⟩ := by
                          unfold after
                          rw [HL'.out]
                          show PS.mk _ (upd q.B x (outB q.B x (setL k sj) bj)) _ = _
                          rw [HL4.out, HOB.out]
                        rw [e]
                        exact HR9.out.below HB10.out
                · have hx0' : (((lft (setL k) q.known (sj, bj)).length : Int) == 1) = false := by rw [beq_eq_false_iff_ne]; omega
                  have HX0 := hide hx0
                  clear hx0 HLx
                  generalize hnx : (lft (setL k) q.known (sj, bj)).length = nx at *
                  have HNX := hide hnx
                  clear hnx
                  go_wp2_with fail
                  go_roundw
                  case rel =>
                    have R : j + 1 ≤ L'.length ∧ Value.int .i64 ((j : Int) + 1) = .int .i64 ((j + 1 : Nat) : Int) ∧ ((Value.bool false = .bool false ∧ Value.slice ao (came k p.known q.known).length co = .slice ao (came k p.known q.known).length co ∧ Below w3.heap.size w3 w2 ∧ ∀ i, i < j + 1 → (lft (setL k) q.known (dAt L' i)).length ≠ 1) ∨ (Value.bool false = .bool true ∧ RFound M w base b k p q (T ++ [seed]) (.slice (some ⟨gA, 0, none⟩) L'.length cA) vT1 (.slice ao (came k p.known q.known).length co) w2)) := by
                      refine ⟨by omega, by simp, Or.inl ⟨rfl, rfl, HB2.out, fun i hi => ?_⟩⟩
                      by_cases c : i = j
                      · rw [c, HDJ.out, HNX.out]; exact HX0.out
                      · exact HNo3.out i (by omega)
                    first
                      | exact ⟨j + 1, R⟩
                      | ((repeat apply Exists.intro); exact ⟨⟨j + 1, R⟩, rfl⟩)
                  case measure => simp [intOf]; omega
              · obtain rfl : j = L'.length := by omega
                have hfin : Hid (oneOf (setL k) q = none) := by
                  show (sift (setL k) q.known q.L).find? _ = none
                  rw [HL'.out]
                  exact find_none fun i hi => by simpa using HNo3.out i hi
                have hjj : ¬ (L'.length : Int) < (L'.length : Int) := by omega
                go_wp2_with fail
                go_roundg 1
                case measure => have := HTt.out.2; omega
                case rel =>
                  refine ⟨⟨q.known, q.B, L'⟩, .slice aA L'.length cA, false, ao, co, rfl, rfl, H3.out.below HB3.out, HLo3.out.below HB3.out, HNil.out, HOb.out, ⟨HQL.out, HGd.out.2⟩, ?_, HGr.out, fun h => (by cases h), fun _ => ⟨?_, Nat.le_refl _⟩⟩
                  · have := sift_len (S := setL k) (kn := q.known) q.L
                    rw [HL'.out] at this
                    exact Nat.le_trans this hql
                  · have h9 := Peels.done hfin.out
                    rw [HL'.out] at h9
                    exact HTt.out.1 _ h9
            · have HFd := hide hfd
              clear hfd
              by_cases hlt : j < L'.length
              · have hlt' : (j : Int) < (L'.length : Int) := by omega
                go_wp2_with fail
                go_roundg (gk - 1)
                case measure => have := HTt.out.2; omega
                case rel =>
                  obtain ⟨d, x, ao', co', f1, f2, f3, f4, f5, f6, f7, f8, f9⟩ := HFd.out
                  refine ⟨after (setL k) q d x, .slice aA L'.length cA, true, ao', co', rfl, f5, f6, f7, f8, f9, ?_, ?_, ?_, fun _ => ⟨fun a ha => HTt.out.1 a (Peels.step f1 f2 ha), ?_⟩, fun h => by cases h⟩
                  · refine ⟨fun e he => HGd.out.1 e (mem_sift.1 he).1, fun r hr => ?_⟩
                    by_cases c : r = x
                    · show (if r = x then _ else _ : ByteArray).size = z
                      rw [if_pos c, outB_size]; exact (HGd.out.1 d (oneOf_mem f1)).2.2
                    · show (if r = x then _ else q.B r : ByteArray).size = z
                      rw [if_neg c]
                      exact HGd.out.2 r (by have hr' : (if r = x then true else q.known r) = true := hr; rw [if_neg c] at hr'; exact hr')
                  · exact Nat.le_trans (sift_len _) hql
                  · exact fun i hi => upd_grows x i (HGr.out i hi)
                  · have := HTt.out.2
                    have := unk_less f3 f4
                    show unk k (upd q.known x true) + 2 ≤ gk - 1
                    omega
              · have hlt' : ¬ (j : Int) < (L'.length : Int) := by omega
                go_wp2_with fail
                go_roundg (gk - 1)
                case measure => have := HTt.out.2; omega
                case rel =>
                  obtain ⟨d, x, ao', co', f1, f2, f3, f4, f5, f6, f7, f8, f9⟩ := HFd.out
                  refine ⟨after (setL k) q d x, .slice aA L'.length cA, true, ao', co', rfl, f5, f6, f7, f8, f9, ?_, ?_, ?_, fun _ => ⟨fun a ha => HTt.out.1 a (Peels.step f1 f2 ha), ?_⟩, fun h => by cases h⟩
                  · refine ⟨fun e he => HGd.out.1 e (mem_sift.1 he).1, fun r hr => ?_⟩
                    by_cases c : r = x
                    · show (if r = x then _ else _ : ByteArray).size = z
                      rw [if_pos c, outB_size]; exact (HGd.out.1 d (oneOf_mem f1)).2.2
                    · show (if r = x then _ else q.B r : ByteArray).size = z
                      rw [if_neg c]
                      exact HGd.out.2 r (by have hr' : (if r = x then true else q.known r) = true := hr; rw [if_neg c] at hr'; exact hr')
                  · exact Nat.le_trans (sift_len _) hql
                  · exact fun i hi => upd_grows x i (HGr.out i hi)
                  · have := HTt.out.2
                    have := unk_less f3 f4
                    show unk k (upd q.known x true) + 2 ≤ gk - 1
                    omega
end Go.Proofs.YtjgifjkdgoijmaaGreatDoor
