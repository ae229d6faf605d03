/-
  Lemmas for the law above, joined into one text (NdRed, FS, NdTab). No statement is proved here.
-/
import Derived.Test.YtjgifjkdgoijmaaGreatEG24
import Derived.Test.YtjgifjkdgoijmaaGreatEG36
import Derived.Deep.LoopGhost
import Derived.Test.YtjgifjkdgoijmaaGreatEG26
namespace Go.Proofs.YtjgifjkdgoijmaaGreat
open Go.Shelf Go.RowKit Go.Maps
set_option linter.unusedVariables false
set_option maxRecDepth 100000

theorem nlast_none (w : World) :
    Calls Tryz.prog 92 #[.int .u64 0] w fun e w' => e = .returned (.int .i64 (-1)) ∧ w = w' := by
  have L := hide (len_ok 0 w (by omega))
  rw [show Lib.bitLen 0 = 0 from by decide +kernel] at L
  go_enter Tryz.func92, Tryz.ntmps92
  go_wp2_with fail
  refine (L.out).mono ?_
  rintro e w1 ⟨rfl, rfl⟩
  go_wp2
  go_ret
  exact ⟨rfl, rfl⟩
theorem nlast_ok (m p : Nat) (w : World) (h : m < 65536) (hp : Lib.bitLen m = p + 1) (h2 : p < 64) :
    Calls Tryz.prog 92 #[.int .u64 (m : Nat)] w fun e w' => e = .returned (.int .i64 (p : Nat)) ∧ w = w' := by
  have L := hide (len_ok m w h)
  rw [hp] at L
  clear hp
  go_enter Tryz.func92, Tryz.ntmps92
  go_wp2_with fail
  refine (L.out).mono ?_
  rintro e w1 ⟨rfl, rfl⟩
  go_wp2
  go_ret
  exact ⟨ret_int (by omega), rfl⟩

set_option maxHeartbeats 1000000 in
theorem nmarks_ok (l : List Nat) (k : Nat) (v : Value) (w : World) (hv : Lst w v l) (hk : k ≤ 16) (hl : ∀ p ∈ l, p < k) (hn : l.length ≤ 16) :
    Calls Tryz.prog 91 #[v] w fun e w' => e = .returned (.int .u64 (maskL l : Nat)) ∧ w = w' := by
  obtain ⟨g, cap, rfl, hc1, hc2, hc⟩ := hv
  have HC := hide hc
  have HL := hide hl
  unfold maxLen at hc2
  clear hc hl
  go_enter Tryz.func91, Tryz.ntmps91
  go_wp2
  go_loop [3, 5, 8] (fun m _ i => ∃ j : Nat, j ≤ l.length ∧ i = .int .i64 j ∧ m = .int .u64 (maskL (l.take j) : Nat)) (fun _ _ i => l.length - (intOf i).toNat)
  case atStart => exact ⟨0, Nat.zero_le _, rfl, rfl⟩
  case round =>
    obtain ⟨j, hj, rfl, rfl⟩ := hrel
    have hm := mask16 hk HL.out j
    by_cases hlt : j < l.length
    · have hcj := HC.out j hlt
      rw [Nat.zero_add] at hcj
      have HS : Hid (maskL (l.take (j + 1)) = maskL (l.take j) ||| 2 ^ l.getD j 0) := by rw [Hid, take_snoc hlt, maskL_snoc]
      have hp : l.getD j 0 < 16 := by
        have h9 : l.getD j 0 ∈ l := by simp [List.getD, hlt]
        have := HL.out _ h9; omega
      generalize l.getD j 0 = p at *
      generalize maskL (l.take j) = m at *
      have hpow : 2 ^ p ≤ 32768 := Nat.pow_le_pow_right (n := 2) (by decide) (show p ≤ 15 by omega)
      obtain ⟨q, hq⟩ : ∃ q : Nat, q = 2 ^ p := ⟨_, rfl⟩
      have hsh : IntKind.u64.wrap (2 ^ p) = (q : Int) := by
        rw [IntKind.wrap_u64, hq, Int.natCast_pow]
        have h9 : ((2 : Int) ^ p) ≤ 32768 := by exact_mod_cast hpow
        have h8 : (0 : Int) ≤ 2 ^ p := by exact_mod_cast Nat.zero_le (2 ^ p)
        exact Int.emod_eq_of_lt h8 (by omega)
      have hor : bits .or .u64 (m : Int) (q : Int) = ((m ||| q : Nat) : Int) := u64_or_nat _ _ (by omega) (by omega)
      rw [← hq] at HS
      have HQ := hide hq
      clear hq hpow
      go_wp2
      go_round
      case rel =>
        refine ⟨j + 1, by omega, by go_num, ?_⟩
        rw [HS.out]
      case measure => simp [intOf]; omega
    · obtain rfl : j = l.length := by omega
      rw [List.take_length] at *
      go_wp2
      go_ret
      exact ⟨rfl, rfl⟩

set_option maxHeartbeats 2000000 in
theorem nreduce_ok (k b m0 : Nat) (has : Nat → Bool) (ofs : Nat → Nat) (D : DataW Unit) (w : World) (hk : k ≤ 16) (hM : UMap w b k has ofs D)
    (hp : ∀ p, has p = true → p < k ∧ (ofs p).testBit p = true ∧ ofs p < 2 ^ (p + 1)) (hm : m0 < 2 ^ k) :
    Calls Tryz.prog 90 #[.map (some b), .int .u64 (m0 : Nat)] w fun e w' => ∃ m : Nat, e = .returned (.int .u64 (m : Nat)) ∧ Sp XN (piv has ofs k) (m0 ^^^ m) ∧ (m = 0 ∨ ∃ p, Lib.bitLen m = p + 1 ∧ has p = false ∧ p < k ∧ m.testBit p = true ∧ m < 2 ^ (p + 1)) ∧ m < 2 ^ k ∧ w = w' := by
  have HM := hide hM
  have HP := hide hp
  have h16 : (2 : Nat) ^ k ≤ 65536 := Nat.pow_le_pow_right (n := 2) (by decide) hk
  obtain ⟨K, hK⟩ : ∃ K : Nat, K = 2 ^ k := ⟨_, rfl⟩
  have HK := hide hK
  have HMl := hide hm
  rw [← hK] at h16
  clear hM hp hm hK
  go_enter Tryz.func90, Tryz.ntmps90
  go_wp2_with fail
  go_loopg [1, 5, 6] (K + 1) (fun gk t1 _ _ wr => ∃ m : Nat, m + 1 ≤ gk ∧ t1 = .int .u64 (m : Nat) ∧ Sp XN (piv has ofs k) (m0 ^^^ m) ∧ m < 2 ^ k ∧ w = wr)
  case atStart => exact ⟨m0, by have := HMl.out; rw [HK.out]; omega, rfl, by rw [Nat.xor_self]; exact Sp.zero XN _, HMl.out, rfl⟩
  case round =>
    obtain ⟨m, hmg, rfl, hsp, hml0, hw⟩ := hrel
    subst hw
    have HSP := hide hsp
    have HML := hide hml0
    have hml : m < 65536 := by have := hml0; rw [← HK.out] at this; omega
    clear hsp hml0 HMl
    by_cases hz : m = 0
    · subst hz
      have L := hide (nlast_none w)
      have HG : Hid (Maps.has D (.int .i64 (-1)) = false) := HM.out.neg
      go_wp2_with fail
      refine (L.out).mono ?_
      rintro e w1 ⟨rfl, rfl⟩
      go_wp2_with (first | (at_lookup; refine wpList_lookup_nou rfl _ _ rfl b k (-1) has ofs D rfl rfl HM.out (by omega) (by omega) HG.out ?_; intro z) | fail)
      go_ret
      exact ⟨0, rfl, HSP.out, Or.inl rfl, HML.out, rfl⟩
    · obtain ⟨p, hp1, hp2, hp3⟩ := top_of hz (by omega)
      have hpk := top_lt HML.out hp2
      have L := hide (nlast_ok m p w hml hp1 (by omega))
      cases hh : has p with
      | false =>
        have HG : Hid (Maps.has D (.int .i64 (p : Nat)) = false) := by rw [Hid, HM.out.holds p]; exact hh
        have HH := hide hh
        have HP1 := hide hp1
        have HP2 := hide hp2
        have HP3 := hide hp3
        clear hh hp1 hp2 hp3 hz
        go_wp2_with fail
        refine (L.out).mono ?_
        rintro e w1 ⟨rfl, rfl⟩
        go_wp2_with (first | (at_lookup; refine wpList_lookup_nou rfl _ _ rfl b k (p : Nat) has ofs D rfl rfl HM.out (by omega) (by omega) HG.out ?_; intro z) | fail)
        go_ret
        exact ⟨m, rfl, HSP.out, Or.inr ⟨p, HP1.out, HH.out, hpk, HP2.out, HP3.out⟩, HML.out, rfl⟩
      | true =>
        obtain ⟨_, hq1, hq2⟩ := HP.out p hh
        have hless := xor_less hp2 hp3 hq1 hq2
        have hsp : Hid (Sp XN (piv has ofs k) (m0 ^^^ (m ^^^ ofs p))) := by
          unfold Hid
          rw [← Nat.xor_assoc]
          exact Sp.add HSP.out (Sp.mem (mem_piv.2 ⟨p, hpk, hh, rfl⟩))
        have hol : ofs p < 65536 := Nat.lt_of_lt_of_le hq2 (Nat.pow_le_pow_right (n := 2) (i := p + 1) (j := 16) (by decide) (by omega))
        have hxr : bits .xor .u64 (m : Int) (ofs p : Int) = ((m ^^^ ofs p : Nat) : Int) := u64_xor_nat _ _ (by omega) (by omega)
        have HH := hide hh
        clear hh hp1 hp2 hp3 hz hq1 hq2
        generalize hy : m ^^^ ofs p = y at *
        generalize hoa : ofs p = oa at *
        have HL : Hid (has p = true ∧ ofs p = oa) := ⟨HH.out, hoa⟩
        clear hy hoa
        go_wp2_with fail
        refine (L.out).mono ?_
        rintro e w1 ⟨rfl, rfl⟩
        go_wp2_with (first | (at_lookup; refine wpList_lookup_u rfl _ _ rfl b k p has ofs D rfl rfl HM.out (by omega) HL.out.1 ?_; rw [HL.out.2]) | fail)
        go_roundg (gk - 1)
        case measure => omega
        case rel => exact ⟨y, by omega, rfl, hsp.out, Nat.lt_trans hless HML.out, rfl⟩

/-- What raise leaves. -/
def Raised (w : World) (L : List Nat) (k b m : Nat) (r : Bool) (w' : World) : Prop :=
  ∃ has ofs D, UMap w' b k has ofs D ∧ NTab (L ++ [m]) k has ofs ∧ (r = true ↔ ¬ Sp XN L m) ∧ w.grownBy w' (some b)
set_option maxHeartbeats 2000000 in
theorem raise_ok (L l : List Nat) (k b : Nat) (v : Value) (has : Nat → Bool) (ofs : Nat → Nat) (D : DataW Unit) (w : World) (hk : k ≤ 16) (hM : UMap w b k has ofs D) (hT : NTab L k has ofs) (hv : Lst w v l) (hl : ∀ p ∈ l, p < k) (hn : l.length ≤ 16) :
    Calls Tryz.prog 69 #[.map (some b), v] w fun e w' => ∃ r : Bool, e = .returned (.bool r) ∧ Raised w L k b (maskL l) r w' := by
  have MK := hide (nmarks_ok l k v w hv hk hl hn)
  have RD := hide (nreduce_ok k b (maskL l) has ofs D w hk hM (fun p hp => ⟨hT.lt p hp, hT.top p hp⟩) (maskL_lt hl))
  have HM := hide hM
  have HT := hide hT
  clear hM hT hv hl
  generalize maskL l = mk at *
  go_enter Tryz.func69, Tryz.ntmps69
  go_wp2_with fail
  refine (MK.out).mono ?_
  rintro e w1 ⟨rfl, rfl⟩
  go_wp2_with fail
  refine (RD.out).mono ?_
  rintro e w1 ⟨m, rfl, hsp, hor, hm, rfl⟩
  have HSP := hide hsp
  have h16 : m < 65536 := Nat.lt_of_lt_of_le hm (Nat.pow_le_pow_right (n := 2) (i := k) (j := 16) (by decide) hk)
  clear hsp hm MK RD
  rcases hor with rfl | ⟨p, hp1, hp2, hp3, hp4, hp5⟩
  · have HS : Hid (NTab (L ++ [mk]) k has ofs ∧ Sp XN L mk) := HT.out.skip (by have h9 := HSP.out; rw [Nat.xor_zero] at h9; exact h9)
    go_wp2
    go_ret
    exact ⟨false, rfl, has, ofs, D, HM.out, HS.out.1, ⟨(fun h => by cases h), fun h => absurd HS.out.2 h⟩, World.grownBy.refl _ _⟩
  · have hne : ((m : Int) == 0) = false := by
      rw [beq_eq_false_iff_ne]
      intro e
      have e2 : m = 0 := by omega
      rw [e2, Nat.zero_testBit] at hp4; cases hp4
    have hfew : Maps.size D ≤ k := by rw [HM.out.size]; exact cntB_le _ _
    have LS := hide (nlast_ok m p w h16 hp1 (by omega))
    have HPut := hide (HT.out.put HSP.out hp2 hp3 ⟨hp4, hp5⟩)
    have HP2 := hide hp2
    clear hp1 hp2 hp4 hp5
    go_wp2_with fail
    refine (LS.out).mono ?_
    rintro e w1 ⟨rfl, rfl⟩
    go_wp2_with (first | (at_mapUpdate; refine wpList_mapUpdate_own _ rfl _ _ _ 111 rfl 3 116 Tryz.lawInt Tryz.underlying111 uElem b (Maps.size D) D rfl HM.out.own (by unfold maxLen; omega) _ _ _ rfl rfl (keyS (r := (p : Nat)) (by omega) (by omega)) _ [] (uElem_mk (m : Nat)) ?_; intro w2 hown2 hgrow2) | fail)
    go_ret
    exact ⟨true, rfl, _, _, _, HM.out.put HP2.out hp3 hown2, HPut.out.1, ⟨fun _ => HPut.out.2, fun _ => rfl⟩, hgrow2⟩
end Go.Proofs.YtjgifjkdgoijmaaGreat

namespace Go.Proofs.YtjgifjkdgoijmaaGreat
open Go.RowKit
set_option linter.unusedVariables false
set_option maxRecDepth 100000

/-- What is wrong with seeds: its number. -/
noncomputable def fS (k : Int) (len : Nat) (f : Nat → Int) : Int := @ite Int (60 < len) (Nat.decLt _ _) 4 (@ite Int (1 ≤ k ∧ k ≤ 16) inferInstance (@ite Int (∃ j, j < len ∧ badS (f j) = true) (Classical.propDecidable _) 1 0) 1)
theorem IntsAt.below {w w' : World} {v : Value} {len : Nat} {f : Nat → Int} (h : IntsAt w v len f) (hb : Below w.heap.size w w') : IntsAt w' v len f := by
  rcases h with h | ⟨h0, b, o, cap, hv, h1, h2, h3, h4⟩
  · exact Or.inl h
  · exact Or.inr ⟨h0, b, o, cap, hv, h1, h2, fun i hi => cell_below hb (h3 i hi), h4⟩
theorem IntsAt.congr {w : World} {v : Value} {len : Nat} {f g : Nat → Int} (h : IntsAt w v len f) (e : ∀ i, i < len → f i = g i) : IntsAt w v len g := by
  rcases h with h | ⟨h0, b, o, cap, hv, h1, h2, h3, h4⟩
  · exact Or.inl h
  · exact Or.inr ⟨h0, b, o, cap, hv, h1, h2, fun i hi => by rw [← e i hi]; exact h3 i hi, fun i hi => by rw [← e i hi]; exact h4 i hi⟩
theorem fS_ok {k : Int} {len : Nat} {f : Nat → Int} (h : fS k len f = 0) : len ≤ 60 ∧ (1 ≤ k ∧ k ≤ 16) ∧ ∀ j, j < len → 1 ≤ f j ∧ f j ≤ 10000 := by
  unfold fS at h
  by_cases hl : 60 < len
  · rw [if_pos hl] at h; cases h
  rw [if_neg hl] at h
  by_cases hk : 1 ≤ k ∧ k ≤ 16
  · rw [if_pos hk] at h
    refine ⟨by omega, hk, fun j hj => ?_⟩
    refine Classical.byContradiction fun hc => ?_
    rw [if_pos ⟨j, hj, by unfold badS; simp; omega⟩] at h
    cases h
  · rw [if_neg hk] at h; cases h
theorem rank_bad {k : Int} {v : Value} {len : Nat} {f : Nat → Int} {w : World} (hv : IntsAt w v len f) (h : fS k len f ≠ 0) :
    Calls Tryz.prog 19 #[.int .i64 k, v] w fun e w' => e = .returned (.tuple #[.int .i64 0, .iface 54 (.int .i64 (fS k len f))]) ∧ w = w' := by
  obtain ⟨a, cap, rfl, _⟩ := hv.open
  by_cases hl : 60 < len
  · have e4 : fS k len f = 4 := by unfold fS; exact if_pos hl
    rw [e4]; exact rank_full k a len cap w hl
  by_cases hk : 1 ≤ k ∧ k ≤ 16
  · by_cases hb : ∃ j, j < len ∧ badS (f j) = true
    · have e1 : fS k len f = 1 := by unfold fS; rw [if_neg hl, if_pos hk, if_pos hb]
      rw [e1]; exact rank_s k _ len f w hv (by omega) hk hb
    · exact absurd (by unfold fS; rw [if_neg hl, if_pos hk, if_neg hb]) h
  · have e1 : fS k len f = 1 := by unfold fS; rw [if_neg hl, if_neg hk]
    rw [e1]; exact rank_k k a len cap w (by omega) (by omega)
end Go.Proofs.YtjgifjkdgoijmaaGreat

namespace Go.Proofs.YtjgifjkdgoijmaaGreat
open Go.RowKit Go.Maps
set_option linter.unusedVariables false
set_option maxRecDepth 100000

/-- The sets of seeds, as numbers. -/
noncomputable def mD (k : Nat) (s : Nat → Nat) : Nat → Nat := fun i => maskL (setL k (s i))
theorem mD_masks (k : Nat) (s : Nat → Nat) (i : Nat) : masksD k s i = preL (mD k s) i := rfl
theorem mD_lt {k : Nat} {s : Nat → Nat} {n : Nat} (hk : 1 ≤ k) (hs : ∀ j, j < n → 1 ≤ s j ∧ s j ≤ 10000) : ∀ v ∈ preL (mD k s) n, v < 2 ^ k := fun v hv => by
  obtain ⟨j, hj, rfl⟩ := mem_preL.1 hv
  exact setL_mask hk (hs j hj).1
/-- Numbers as values. -/
def iV (l : List Nat) : List Value := l.map fun r : Nat => .int .i64 (r : Nat)
theorem iV_snoc (l : List Nat) (n : Nat) : iV (l ++ [n]) = iV l ++ [.int .i64 (n : Nat)] := by unfold iV; rw [List.map_append]; rfl
theorem own_base {w : World} {B B' e size n : Nat} {v : Value} {xs : List Value} (h : w.ownsRow B e size v n xs) (hB : B' ≤ B) : w.ownsRow B' e size v n xs := by
  refine ⟨h.1, ?_⟩
  rcases h.2 with hn | ⟨g, cap, cur, hv, h1, r⟩
  · exact Or.inl hn
  · exact Or.inr ⟨g, cap, cur, hv, Nat.le_trans hB h1, r⟩
theorem own_slice {w : World} {B e size n : Nat} {v : Value} {xs : List Value} (h : w.ownsRow B e size v n xs) : ∃ a cap, v = .slice a n cap := by
  rcases h.2 with ⟨hv, hn⟩ | ⟨g, cap, cur, hv, _⟩
  · exact ⟨none, 0, by rw [hn]; exact hv⟩
  · exact ⟨_, cap, hv⟩
/-- What tabled has come to, behind the first seeds. -/
def NdInv (w : World) (k : Nat) (M : Nat → Nat) (b j : Nat) (vo : Value) (wr : World) : Prop :=
  ∃ has ofs D, UMap wr b k has ofs D ∧ NTab (preL M j) k has ofs ∧ wr.ownsRow (b + 1) 3 1 vo (upL [] M j).length (iV (upL [] M j)) ∧ w.heap.size ≤ b ∧ Below w.heap.size w wr
theorem ntab_bad {k : Int} {v : Value} {len : Nat} {f : Nat → Int} {w : World} (hv : IntsAt w v len f) (h : fS k len f ≠ 0) :
    Calls Tryz.prog 68 #[.int .i64 k, v] w fun e w' => e = .returned (.tuple #[.map none, .slice none 0 0, .iface 54 (.int .i64 (fS k len f))]) ∧ w = w' := by
  have R := hide (rank_bad hv h)
  obtain ⟨a, cap, rfl, _⟩ := hv.open
  clear hv
  generalize fS k len f = x at *
  go_enter Tryz.func68, Tryz.ntmps68
  go_wp2_with fail
  refine (R.out).mono ?_
  rintro e w1 ⟨rfl, rfl⟩
  go_wp2
  go_ret3
  exact ⟨rfl, rfl⟩
set_option maxHeartbeats 4000000 in
theorem ntab_ok (k : Nat) (v : Value) (len : Nat) (s : Nat → Nat) (w : World) (hv : IntsAt w v len (fun i => (s i : Int))) (h : len ≤ 60) (hk : 1 ≤ k) (hk2 : k ≤ 16) (hs : ∀ j, j < len → 1 ≤ s j ∧ s j ≤ 10000) :
    Calls Tryz.prog 68 #[.int .i64 k, v] w fun e w' => ∃ b vo, e = .returned (.tuple #[.map (some b), vo, .nilIface]) ∧ NdInv w k (mD k s) b len vo w' := by
  have hmm := fun w => run_makeMap (P := Tryz.prog) 111 w
  have R := hide (rank_ok k v len s w hv h hk hk2 hs)
  obtain ⟨a, cap, rfl, h0⟩ := hv.open
  have H0 := hide h0
  have HS := hide hs
  obtain ⟨i0, hi0, hz0, hz1, hz2⟩ := info_parts Tryz.infoInt
  have Hi := hide hi0
  have Hz0 := hide hz0
  have Hz1 := hide hz1
  have Hz2 := hide hz2
  clear hs hv h0 hi0 hz0 hz1 hz2
  go_enter Tryz.func68, Tryz.ntmps68
  go_wp2_with fail
  refine (R.out).mono ?_
  rintro e w1 ⟨r, rfl, _, _, hb1⟩
  have HI : Hid (NdInv w k (mD k s) w1.heap.size 0 (.slice none 0 0) (w1.alloc (.map #[] 0))) := ⟨_, fun _ => 0, _, umap_made w1 k _, ntab_none k _, World.ownsRow_nil _ _ _ _, hb1.size, hb1.alloc hb1.size _⟩
  have HB1 := hide hb1
  clear hb1 R
  go_wp2_with fail
  go_loopw [10, 27] (fun vo i wr => ∃ j : Nat, j ≤ len ∧ i = .int .i64 j ∧ NdInv w k (mD k s) w1.heap.size j vo wr) (fun _ i _ => len - (intOf i).toNat)
  case atStart => exact ⟨0, Nat.zero_le _, rfl, HI.out⟩
  case round =>
    obtain ⟨j, hj, rfl, hI⟩ := hrel
    have HJ := hide hI
    clear hI HI
    by_cases hlt : j < len
    · obtain ⟨bb, o, ha, hc1, hc2, hc⟩ := H0.out (by omega)
      subst ha
      obtain ⟨has, ofs, D, hM, hT, hO, hwb, hb⟩ := HJ.out
      have hcj : wr.cell? ⟨bb, o + j, none⟩ = some (.int .i64 (s j : Nat)) := cell_below hb (hc j hlt)
      have hsj := HS.out j hlt
      have HM := hide hM
      have HT := hide hT
      have HO := hide hO
      have HB := hide hb
      have S := hide (set_new k (s j) wr hk hk2 hsj.1 hsj.2)
      have RS : Hid (∀ W v, Below wr.heap.size wr W → Lst W v (setL k (s j)) → Calls Tryz.prog 69 #[.map (some w1.heap.size), v] W fun e w' => ∃ r : Bool, e = .returned (.bool r) ∧ Raised W (preL (mD k s) j) k w1.heap.size (mD k s j) r w') := fun W v hW hl => raise_ok (preL (mD k s) j) (setL k (s j)) k w1.heap.size v has ofs D W hk2 (HM.out.below hW) HT.out hl (fun p hp => setL_lt hk hsj.1 hp) (setL_few hk hk2 hsj.1 hsj.2)
      have HUl := hide (upL_le [] (mD k s) j)
      unfold maxLen at hc2
      clear hc hM hT hO hb hmm
      generalize hx : s j = x at *
      clear hx
      go_wp2_with fail
      refine (S.out).mono ?_
      rintro e w2 ⟨vs, rfl, hl2, hb2, _⟩
      have RS2 := hide (RS.out w2 vs hb2 hl2)
      have HO2 := hide (ownU HO.out hb2)
      have HB2 := hide (below_two HB.out hb2)
      clear hb2 hl2 S RS hcj
      go_wp2_with fail
      refine (RS2.out).mono ?_
      rintro e w3 ⟨r, rfl, has3, ofs3, D3, hM3, hT3, hr3, hg3⟩
      have HM3 := hide hM3
      have HT3 : Hid (NTab (preL (mD k s) (j + 1)) k has3 ofs3) := by rw [Hid, preL_succ]; exact hT3
      have HB3 : Hid (Below w.heap.size w w3) := HB2.out.grown hg3 HB2.out.size (fun q hq => by cases hq; exact hwb)
      have HO3 : Hid (w3.ownsRow (w1.heap.size + 1) 3 1 u10 (upL [] (mD k s) j).length (iV (upL [] (mD k s) j))) := HO2.out.kept hg3 (by
          cases e : u10.ownBlock with
          | none => exact Or.inl rfl
          | some q => exact Or.inr (fun e2 => by cases e2; have := (HO2.out.lt _ e).1; omega))
      have hw3 := Nat.lt_of_lt_of_le HM3.out.lt (Nat.le_refl _)
      have hul := HUl.out
      clear hM3 hT3 hg3 RS2
      cases r with
      | false =>
        have hin : Sp XN (preL (mD k s) j) (mD k s j) := Classical.byContradiction fun hc => by have := hr3.2 hc; cases this
        have HUp : Hid (upL [] (mD k s) (j + 1) = upL [] (mD k s) j) := upL_in hin
        clear hr3 hin
        go_wp2
        go_roundw
        case rel => exact ⟨j + 1, by omega, by go_num, has3, ofs3, D3, HM3.out, HT3.out, by rw [HUp.out]; exact HO3.out, hwb, HB3.out⟩
        case measure => simp [intOf]; omega
      | true =>
        have HUp : Hid (upL [] (mD k s) (j + 1) = upL [] (mD k s) j ++ [j]) := upL_out (hr3.1 rfl)
        clear hr3
        go_wp2_with (at_builtin; refine wpList_append_own _ rfl _ _ 22 rfl (w1.heap.size + 1) 3 i0 (.int .i64 0) 1 8 Tryz.underlying22 Hi.out Hz0.out Hz1.out Hz2.out rfl (by decide) _ _ _ rfl (HO3.out.alloc _) ⟨w3.heap.size, 0, none⟩ 1 1 [.int .i64 (j : Nat)] rfl rfl (cell_one_new _ _ _) (fun x hx => by simp at hx; subst hx; rfl) (by unfold maxLen; omega) (by omega) (by simp; omega) ?_; intro v5 w5 hown5 hgrow5 hnil5)
        go_roundw
        case rel =>
          have hb5 : Below w3.heap.size w3 (w3.alloc (.cells #[.int .i64 (j : Nat)] 3)) := (Below.refl _ _).alloc (Nat.le_refl _) _
          refine ⟨j + 1, by omega, by go_num, has3, ofs3, D3, (HM3.out.below hb5).of_block (hgrow5.block _ (by simp; omega) fun e => ?_), HT3.out, ?_, hwb, (below_two HB3.out hb5).grown hgrow5 (by have := HB3.out.size; simp; omega) (fun q hq => by have := (HO3.out.lt q hq).1; omega)⟩
          · have := (HO3.out.lt _ e.symm).1; omega
          · rw [HUp.out, List.length_append, iV_snoc]; exact hown5
        case measure => simp [intOf]; omega
    · obtain rfl : j = len := by omega
      go_wp2
      go_ret3
      exact ⟨_, _, rfl, HJ.out⟩
end Go.Proofs.YtjgifjkdgoijmaaGreat
