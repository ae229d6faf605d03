/-
  Our own contracts of need.last, need.marks, the rows' reduce and raise of package need over this seat's translation. Lemmas for the laws above; no statement is proved here.
-/
import Derived.Test.YtakaeikobahaoaaSvLast
import Derived.Test.YtakaeikobahaoaaNdMap
import Derived.Deep.LoopGhost
namespace Go.Proofs.Ytakaeikobahaoaa
open Go.Shelf Go.RowKit Go.Maps
set_option linter.unusedVariables false
set_option maxRecDepth 100000

theorem nlast_none (w : World) :
    Calls Try.prog 17 #[.int .u64 0] w fun e w' => e = .returned (.int .i64 (-1)) ∧ w = w' := by
  have L := hide (len_ok 0 w (by omega))
  rw [show Lib.bitLen 0 = 0 from by decide +kernel] at L
  go_enter Try.func17, Try.ntmps17
  go_wp2_with fail
  refine (L.out).mono ?_
  rintro e w1 ⟨rfl, rfl⟩
  go_wp2
  go_ret
  exact ⟨rfl, rfl⟩
theorem nlast_ok (m p : Nat) (w : World) (h : m < 65536) (hp : Lib.bitLen m = p + 1) (h2 : p < 64) :
    Calls Try.prog 17 #[.int .u64 (m : Nat)] w fun e w' => e = .returned (.int .i64 (p : Nat)) ∧ w = w' := by
  have L := hide (len_ok m w h)
  rw [hp] at L
  clear hp
  go_enter Try.func17, Try.ntmps17
  go_wp2_with fail
  refine (L.out).mono ?_
  rintro e w1 ⟨rfl, rfl⟩
  go_wp2
  go_ret
  exact ⟨ret_int (by omega), rfl⟩

set_option maxHeartbeats 1000000 in
theorem nmarks_ok (l : List Nat) (k : Nat) (v : Value) (w : World) (hv : Lst w v l) (hk : k ≤ 16) (hl : ∀ p ∈ l, p < k) (hn : l.length ≤ 16) :
    Calls Try.prog 16 #[v] w fun e w' => e = .returned (.int .u64 (maskL l : Nat)) ∧ w = w' := by
  obtain ⟨g, cap, rfl, hc1, hc2, hc⟩ := hv
  have HC := hide hc
  have HL := hide hl
  unfold maxLen at hc2
  clear hc hl
  go_enter Try.func16, Try.ntmps16
  go_wp2
  go_loop [3, 5, 8] (fun m _ i => ∃ j : Nat, j ≤ l.length ∧ i = .int .i64 j ∧ m = .int .u64 (maskL (l.take j) : Nat)) (fun _ _ i => l.length - (intOf i).toNat)
  case atStart => exact ⟨0, Nat.zero_le _, rfl, rfl⟩
  case round =>
    obtain ⟨j, hj, rfl, rfl⟩ := hrel
    have hm := mask16 hk HL.out j
    by_cases hlt : j < l.length
    · have hcj := HC.out j hlt
      rw [Nat.zero_add] at hcj
      have HS : Hid (maskL (l.take (j + 1)) = maskL (l.take j) ||| 2 ^ l.getD j 0) := by rw [Hid, take_snoc hlt, maskL_snoc]
      have hp : l.getD j 0 < 16 := by
        have h9 : l.getD j 0 ∈ l := by simp [List.getD, hlt]
        have := HL.out _ h9; omega
      generalize l.getD j 0 = p at *
      generalize maskL (l.take j) = m at *
      have hpow : 2 ^ p ≤ 32768 := Nat.pow_le_pow_right (n := 2) (by decide) (show p ≤ 15 by omega)
      obtain ⟨q, hq⟩ : ∃ q : Nat, q = 2 ^ p := ⟨_, rfl⟩
      have hsh : IntKind.u64.wrap (2 ^ p) = (q : Int) := by
        rw [IntKind.wrap_u64, hq, Int.natCast_pow]
        have h9 : ((2 : Int) ^ p) ≤ 32768 := by exact_mod_cast hpow
        have h8 : (0 : Int) ≤ 2 ^ p := by exact_mod_cast Nat.zero_le (2 ^ p)
        exact Int.emod_eq_of_lt h8 (by omega)
      have hor : bits .or .u64 (m : Int) (q : Int) = ((m ||| q : Nat) : Int) := u64_or_nat _ _ (by omega) (by omega)
      rw [← hq] at HS
      have HQ := hide hq
      clear hq hpow
      go_wp2
      go_round
      case rel =>
        refine ⟨j + 1, by omega, by go_num, ?_⟩
        rw [HS.out]
      case measure => simp [intOf]; omega
    · obtain rfl : j = l.length := by omega
      rw [List.take_length] at *
      go_wp2
      go_ret
      exact ⟨rfl, rfl⟩

set_option maxHeartbeats 2000000 in
theorem nreduce_ok (k b m0 : Nat) (has : Nat → Bool) (ofs : Nat → Nat) (D : DataW Unit) (w : World) (hk : k ≤ 16) (hM : UMap w b k has ofs D)
    (hp : ∀ p, has p = true → p < k ∧ (ofs p).testBit p = true ∧ ofs p < 2 ^ (p + 1)) (hm : m0 < 2 ^ k) :
    Calls Try.prog 15 #[.map (some b), .int .u64 (m0 : Nat)] w fun e w' => ∃ m : Nat, e = .returned (.int .u64 (m : Nat)) ∧ Sp XN (piv has ofs k) (m0 ^^^ m) ∧ (m = 0 ∨ ∃ p, Lib.bitLen m = p + 1 ∧ has p = false ∧ p < k ∧ m.testBit p = true ∧ m < 2 ^ (p + 1)) ∧ m < 2 ^ k ∧ w = w' := by
  have HM := hide hM
  have HP := hide hp
  have h16 : (2 : Nat) ^ k ≤ 65536 := Nat.pow_le_pow_right (n := 2) (by decide) hk
  obtain ⟨K, hK⟩ : ∃ K : Nat, K = 2 ^ k := ⟨_, rfl⟩
  have HK := hide hK
  have HMl := hide hm
  rw [← hK] at h16
  clear hM hp hm hK
  go_enter Try.func15, Try.ntmps15
  go_wp2_with fail
  go_loopg [1, 5, 6] (K + 1) (fun gk t1 _ _ wr => ∃ m : Nat, m + 1 ≤ gk ∧ t1 = .int .u64 (m : Nat) ∧ Sp XN (piv has ofs k) (m0 ^^^ m) ∧ m < 2 ^ k ∧ w = wr)
  case atStart => exact ⟨m0, by have := HMl.out; rw [HK.out]; omega, rfl, by rw [Nat.xor_self]; exact Sp.zero XN _, HMl.out, rfl⟩
  case round =>
    obtain ⟨m, hmg, rfl, hsp, hml0, hw⟩ := hrel
    subst hw
    have HSP := hide hsp
    have HML := hide hml0
    have hml : m < 65536 := by have := hml0; rw [← HK.out] at this; omega
    clear hsp hml0 HMl
    by_cases hz : m = 0
    · subst hz
      have L := hide (nlast_none w)
      have HG : Hid (Maps.has D (.int .i64 (-1)) = false) := HM.out.neg
      go_wp2_with fail
      refine (L.out).mono ?_
      rintro e w1 ⟨rfl, rfl⟩
      go_wp2_with (first | (at_lookup; refine wpList_lookup_nou rfl _ _ rfl b k (-1) has ofs D rfl rfl HM.out (by omega) (by omega) HG.out ?_; intro z) | fail)
      go_ret
      exact ⟨0, rfl, HSP.out, Or.inl rfl, HML.out, rfl⟩
    · obtain ⟨p, hp1, hp2, hp3⟩ := top_of hz (by omega)
      have hpk := top_lt HML.out hp2
      have L := hide (nlast_ok m p w hml hp1 (by omega))
      cases hh : has p with
      | false =>
        have HG : Hid (Maps.has D (.int .i64 (p : Nat)) = false) := by rw [Hid, HM.out.holds p]; exact hh
        have HH := hide hh
        have HP1 := hide hp1
        have HP2 := hide hp2
        have HP3 := hide hp3
        clear hh hp1 hp2 hp3 hz
        go_wp2_with fail
        refine (L.out).mono ?_
        rintro e w1 ⟨rfl, rfl⟩
        go_wp2_with (first | (at_lookup; refine wpList_lookup_nou rfl _ _ rfl b k (p : Nat) has ofs D rfl rfl HM.out (by omega) (by omega) HG.out ?_; intro z) | fail)
        go_ret
        exact ⟨m, rfl, HSP.out, Or.inr ⟨p, HP1.out, HH.out, hpk, HP2.out, HP3.out⟩, HML.out, rfl⟩
      | true =>
        obtain ⟨_, hq1, hq2⟩ := HP.out p hh
        have hless := xor_less hp2 hp3 hq1 hq2
        have hsp : Hid (Sp XN (piv has ofs k) (m0 ^^^ (m ^^^ ofs p))) := by
          unfold Hid
          rw [← Nat.xor_assoc]
          exact Sp.add HSP.out (Sp.mem (mem_piv.2 ⟨p, hpk, hh, rfl⟩))
        have hol : ofs p < 65536 := Nat.lt_of_lt_of_le hq2 (Nat.pow_le_pow_right (n := 2) (i := p + 1) (j := 16) (by decide) (by omega))
        have hxr : bits .xor .u64 (m : Int) (ofs p : Int) = ((m ^^^ ofs p : Nat) : Int) := u64_xor_nat _ _ (by omega) (by omega)
        have HH := hide hh
        clear hh hp1 hp2 hp3 hz hq1 hq2
        generalize hy : m ^^^ ofs p = y at *
        generalize hoa : ofs p = oa at *
        have HL : Hid (has p = true ∧ ofs p = oa) := ⟨HH.out, hoa⟩
        clear hy hoa
        go_wp2_with fail
        refine (L.out).mono ?_
        rintro e w1 ⟨rfl, rfl⟩
        go_wp2_with (first | (at_lookup; refine wpList_lookup_u rfl _ _ rfl b k p has ofs D rfl rfl HM.out (by omega) HL.out.1 ?_; rw [HL.out.2]) | fail)
        go_roundg (gk - 1)
        case measure => omega
        case rel => exact ⟨y, by omega, rfl, hsp.out, Nat.lt_trans hless HML.out, rfl⟩

/-- What raise leaves. -/
def Raised (w : World) (L : List Nat) (k b m : Nat) (r : Bool) (w' : World) : Prop :=
  ∃ has ofs D, UMap w' b k has ofs D ∧ NTab (L ++ [m]) k has ofs ∧ (r = true ↔ ¬ Sp XN L m) ∧ w.grownBy w' (some b)
set_option maxHeartbeats 2000000 in
theorem raise_ok (L l : List Nat) (k b : Nat) (v : Value) (has : Nat → Bool) (ofs : Nat → Nat) (D : DataW Unit) (w : World) (hk : k ≤ 16) (hM : UMap w b k has ofs D) (hT : NTab L k has ofs) (hv : Lst w v l) (hl : ∀ p ∈ l, p < k) (hn : l.length ≤ 16) :
    Calls Try.prog 9 #[.map (some b), v] w fun e w' => ∃ r : Bool, e = .returned (.bool r) ∧ Raised w L k b (maskL l) r w' := by
  have MK := hide (nmarks_ok l k v w hv hk hl hn)
  have RD := hide (nreduce_ok k b (maskL l) has ofs D w hk hM (fun p hp => ⟨hT.lt p hp, hT.top p hp⟩) (maskL_lt hl))
  have HM := hide hM
  have HT := hide hT
  clear hM hT hv hl
  generalize maskL l = mk at *
  go_enter Try.func9, Try.ntmps9
  go_wp2_with fail
  refine (MK.out).mono ?_
  rintro e w1 ⟨rfl, rfl⟩
  go_wp2_with fail
  refine (RD.out).mono ?_
  rintro e w1 ⟨m, rfl, hsp, hor, hm, rfl⟩
  have HSP := hide hsp
  have h16 : m < 65536 := Nat.lt_of_lt_of_le hm (Nat.pow_le_pow_right (n := 2) (i := k) (j := 16) (by decide) hk)
  clear hsp hm MK RD
  rcases hor with rfl | ⟨p, hp1, hp2, hp3, hp4, hp5⟩
  · have HS : Hid (NTab (L ++ [mk]) k has ofs ∧ Sp XN L mk) := HT.out.skip (by have h9 := HSP.out; rw [Nat.xor_zero] at h9; exact h9)
    go_wp2
    go_ret
    exact ⟨false, rfl, has, ofs, D, HM.out, HS.out.1, ⟨(fun h => by cases h), fun h => absurd HS.out.2 h⟩, World.grownBy.refl _ _⟩
  · have hne : ((m : Int) == 0) = false := by
      rw [beq_eq_false_iff_ne]
      intro e
      have e2 : m = 0 := by omega
      rw [e2, Nat.zero_testBit] at hp4; cases hp4
    have hfew : Maps.size D ≤ k := by rw [HM.out.size]; exact cntB_le _ _
    have LS := hide (nlast_ok m p w h16 hp1 (by omega))
    have HPut := hide (HT.out.put HSP.out hp2 hp3 ⟨hp4, hp5⟩)
    have HP2 := hide hp2
    clear hp1 hp2 hp4 hp5
    go_wp2_with fail
    refine (LS.out).mono ?_
    rintro e w1 ⟨rfl, rfl⟩
    go_wp2_with (first | (at_mapUpdate; refine wpList_mapUpdate_own _ rfl _ _ _ 31 rfl 3 48 Try.lawInt Try.underlying31 uElem b (Maps.size D) D rfl HM.out.own (by unfold maxLen; omega) _ _ _ rfl rfl (keyS (r := (p : Nat)) (by omega) (by omega)) _ [] (uElem_mk (m : Nat)) ?_; intro w2 hown2 hgrow2) | fail)
    go_ret
    exact ⟨true, rfl, _, _, _, HM.out.put HP2.out hp3 hown2, HPut.out.1, ⟨fun _ => HPut.out.2, fun _ => rfl⟩, hgrow2⟩
end Go.Proofs.Ytakaeikobahaoaa
