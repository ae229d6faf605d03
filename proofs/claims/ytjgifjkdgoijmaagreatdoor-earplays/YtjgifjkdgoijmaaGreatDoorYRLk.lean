/-
  Lemmas for the law above, joined into one text (RLk). No statement is proved here.
-/
import Derived.Test.YtjgifjkdgoijmaaGreatDoorYRk
import Derived.Test.YtjgifjkdgoijmaaGreatDoorYAppK
import Derived.Test.YtjgifjkdgoijmaaGreatDoorYG34
import Derived.Test.YtjgifjkdgoijmaaGreatDoorYG36
namespace Go.Proofs.YtjgifjkdgoijmaaGreatDoor
open Go.RowKit
set_option linter.unusedVariables false
set_option maxRecDepth 100000

/-- The cells of lines without bytes, by a list of their sets. -/
def lcA (A : List Nat) : List Value := lcells (fun i => A.getD i 0) (fun _ => ⟨#[]⟩) A.length
theorem lcells_congr {m n : Nat → Nat} {d : Nat → ByteArray} {N : Nat} (h : ∀ i, i < N → m i = n i) : lcells m d N = lcells n d N := by
  unfold lcells
  rw [List.flatMap_def, List.flatMap_def]
  congr 1
  exact List.map_congr_left fun i hi => by rw [h i (List.mem_range.1 hi)]
theorem lcA_snoc (A : List Nat) (x : Nat) : lcA (A ++ [x]) = lcA A ++ (linC x.testBit ⟨#[]⟩).toList := by
  unfold lcA
  rw [List.length_append, show A.length + [x].length = A.length + 1 from rfl, lcells_succ]
  congr 1
  · exact lcells_congr fun i hi => by simp [List.getD, List.getElem?_append_left hi]
  · simp [List.getD]
/-- Lines that the call owns. -/
def LnA (w : World) (B : Nat) (v : Value) (A : List Nat) : Prop := w.ownsRow B 101 17 v A.length (lcA A) ∧ (A.length = 0 → v = .slice none 0 0)
theorem LnA.below {w w' : World} {B : Nat} {v : Value} {A : List Nat} (h : LnA w B v A) (hb : Below w.heap.size w w') : LnA w' B v A := ⟨ownU h.1 hb, h.2⟩
theorem rk_A {w : World} {B k : Nat} {v : Value} {A : List Nat} (hk : k ≤ 16) (hA : A.length ≤ 100) (h : LnA w B v A) (hm : ∀ x ∈ A, x < 2 ^ k) :
    Calls Tryz.prog 52 #[v, .int .i64 k] w fun e w' => e = .returned (.int .i64 (rkL A : Nat)) ∧ Below w.heap.size w w' := by
  have h9 := rk_ok k A.length v (fun i => A.getD i 0) w hk hA (own_lnsAt h.1 h.2) (fun i hi => hm _ (by simp [List.getD, hi]))
  rw [pre_getD] at h9
  exact h9
theorem rangeAt_below {w w' : World} {b o : Nat} {vs : List Value} (h : w.rangeAt b o vs) (hb : Below w.heap.size w w') : w'.rangeAt b o vs := fun j v hv => cell_below hb (h j v hv)
theorem rangeAt_grown {w w' : World} {b o : Nat} {vs : List Value} {row : Option Nat} (h : w.rangeAt b o vs) (hg : w.grownBy w' row) (hne : some b ≠ row) : w'.rangeAt b o vs := fun j v hv => hg.cell (h j v hv) hne
/-- What Lacks holds behind some blocks. -/
def RlSt (w : World) (L : List Nat) (b : Nat) (vl vo : Value) (wr : World) : Prop :=
  LnA wr w.heap.size vl (L ++ (upL L unit b).map unit) ∧ wr.ownsRow w.heap.size 3 1 vo (upL L unit b).length (iV (upL L unit b)) ∧ Apart vl vo ∧ Below w.heap.size w wr
set_option maxHeartbeats 8000000 in
theorem rlacks_ok (k : Nat) (v : Value) (len : Nat) (s : Nat → Nat) (w : World) (hv : IntsAt w v len (fun i => (s i : Int))) (h : len ≤ 60) (hk : 1 ≤ k) (hk2 : k ≤ 16) (hs : ∀ j, j < len → 1 ≤ s j ∧ s j ≤ 10000) :
    Calls Tryz.prog 20 #[.int .i64 k, v] w fun e w' => ∃ vo, e = .returned vo ∧ w'.ownsRow w.heap.size 3 1 vo (upL (preL (mD k s) len) unit k).length (iV (upL (preL (mD k s) len) unit k)) ∧ Below w.heap.size w w' := by
  obtain ⟨a, cap, rfl, h0⟩ := hv.open
  have H0 := hide h0
  have HS := hide hs
  obtain ⟨i0, hi0, hz0, hz1, hz2⟩ := info_parts Tryz.infoLine
  have Hi := hide hi0
  have Hz0 := hide hz0
  have Hz1 := hide hz1
  have Hz2 := hide hz2
  obtain ⟨i1, hi1, hy0, hy1, hy2⟩ := info_parts Tryz.infoInt
  have Hi1 := hide hi1
  have Hy0 := hide hy0
  have Hy1 := hide hy1
  have Hy2 := hide hy2
  clear hs hv h0 hi0 hz0 hz1 hz2 hi1 hy0 hy1 hy2
  go_enter Tryz.func20, Tryz.ntmps20
  go_wp2_with fail
  go_loopw [5, 6] (fun vo i wr => ∃ (j : Nat) (ao : Option Addr) (co : Nat), j ≤ len ∧ i = .int .i64 j ∧ vo = .slice ao j co ∧ LnA wr w.heap.size vo (preL (mD k s) j) ∧ Below w.heap.size w wr) (fun _ i _ => len - (intOf i).toNat)
  case atStart => exact ⟨0, none, 0, Nat.zero_le _, rfl, rfl, ⟨World.ownsRow_nil _ _ _ _, fun _ => rfl⟩, Below.refl _ _⟩
  case round =>
    obtain ⟨j, ao, co, hj, rfl, rfl, hrow, hb⟩ := hrel
    have HRow := hide hrow
    have HB := hide hb
    have hpl : (preL (mD k s) j).length = j := preL_len _ _
    clear hrow hb
    by_cases hlt : j < len
    · obtain ⟨bb, o, ha, hc1, hc2, hc⟩ := H0.out (by omega)
      subst ha
      have hcj : wr.cell? ⟨bb, o + j, none⟩ = some (.int .i64 (s j : Nat)) := cell_below HB.out (hc j hlt)
      have hsj := HS.out j hlt
      have RS := hide (fun W => rset_ok k (s j) W hk hk2 hsj.1 hsj.2)
      have RO : Hid (∀ W v, Lst W v (setL k (s j)) → Calls Tryz.prog 48 #[v, .string ⟨#[]⟩] W fun e w' => e = .returned (.agg (linC (mD k s j).testBit ⟨#[]⟩)) ∧ Below W.heap.size W w') := fun W v hv => rof_ok _ v _ W hv (setL16 hk hk2 hsj.1) (setL_few hk hk2 hsj.1 hsj.2)
      have HNext : Hid (lcA (preL (mD k s) (j + 1)) = lcA (preL (mD k s) j) ++ (linC (mD k s j).testBit ⟨#[]⟩).toList) := by rw [Hid, preL_succ]; exact lcA_snoc _ _
      unfold maxLen at hc2
      clear hc
      generalize hxs : s j = x at *
      generalize hcc : linC (mD k s j).testBit ⟨#[]⟩ = cc at *
      have HC1 : Hid (cc.size = 17) := by rw [Hid, ← hcc]; rfl
      have HC2 : Hid (cc.all (·.oneCell') = true) := by rw [Hid, ← hcc]; exact linC_one _ _
      have HCC := hide hcc
      have hfill : Array.foldl (fun (cs : Array Value) (x : Value × Nat) => cs.setIfInBounds x.snd x.fst) #[.bool false, .bool false, .bool false, .bool false, .bool false, .bool false, .bool false, .bool false, .bool false, .bool false, .bool false, .bool false, .bool false, .bool false, .bool false, .bool false, .string ⟨#[]⟩] cc.zipIdx 0 17 = cc := by rw [← hcc]; exact fill_lin _ _
      have hcs : cc.size = 17 := HC1.out
      clear hxs hcc
      go_wp2_with fail
      refine (RS.out _).mono ?_
      rintro e w1 ⟨vs, rfl, hl1, hb1⟩
      have RO1 := hide (RO.out w1 vs hl1)
      have HB1 := hide (below_two HB.out hb1)
      have HRow1 := hide (HRow.out.below hb1)
      clear hl1 hb1 RS RO hcj
      go_wp2_with fail
      refine (RO1.out).mono ?_
      rintro e w2 ⟨rfl, hb2⟩
      have HB2 := hide (below_two HB1.out hb2)
      have HRow2 := hide (HRow1.out.below hb2)
      clear hb2 RO1
      have hL0 := linF_new w2 (fun _ => false) ⟨#[]⟩ 101
      have HTh := hide hL0.there
      have HPut : Hid ((((w2.alloc (.cells (linC (fun _ => false) ⟨#[]⟩) 101)).setCells w2.heap.size 0 cc.toList)).rangeAt w2.heap.size 0 cc.toList) := World.rangeAt_setCells_same _ _ _ _ (by rw [Array.length_toList, HC1.out]; exact HTh.out)
      have HBs : Hid (Below w2.heap.size w2 ((w2.alloc (.cells (linC (fun _ => false) ⟨#[]⟩) 101)).setCells w2.heap.size 0 cc.toList)) := sets_below (Nat.le_refl _) _ _ _ ((Below.refl w2.heap.size w2).alloc (Nat.le_refl _) _)
      have HRow3 := hide (HRow2.out.below HBs.out).1
      have HB3 := hide (below_two HB2.out HBs.out)
      obtain ⟨W3, hW3⟩ : ∃ W3, W3 = (w2.alloc (.cells (linC (fun _ => false) ⟨#[]⟩) 101)).setCells w2.heap.size 0 cc.toList := ⟨_, rfl⟩
      rw [← hW3] at HRow3 HB3 HPut
      have hsz3 : w.heap.size ≤ W3.heap.size := HB3.out.size
      have HW3 := hide hW3
      rw [hpl] at HRow3
      clear hW3 hL0
      go_wp2_with (first
        | (refine wpList_store_mid rfl 101 _ _ rfl w2.heap.size 0 cc rfl rfl (by rw [HC1.out]; exact HTh.out) (by rw [HC1.out]; exact Tryz.sizeLine) HC2.out ?_; have hgen := HW3.out; unfold linC at hgen; rw [← hgen]; clear hgen)
        | (refine wpList_load_mid rfl 101 _ rfl w2.heap.size 0 rfl cc.toList _ HPut.out Tryz.underlying101 rfl (by rw [Array.length_toList, HC1.out]; exact Tryz.sizeLine) ?_)
        | (at_builtin; refine wpList_append_lies _ rfl _ _ 99 rfl w.heap.size 101 i0 (.agg (linC (fun _ => false) ⟨#[]⟩)) 17 32 Tryz.underlying99 Hi.out Hz0.out Hz1.out Hz2.out rfl (by decide) _ _ _ rfl (HRow3.out.alloc _) ⟨W3.heap.size, 0, none⟩ 1 1 cc.toList rfl (by rw [Array.length_toList, HC1.out]) (World.news_of_block (cs := cc) (t := 101) (fr := (0, 0)) (heap_alloc_new W3 _)) (fun u hu => (Array.all_eq_true_iff_forall_mem.1 HC2.out) u (by simpa using hu)) (by decide) (by unfold maxLen; omega) (by omega) (by simp; omega) _ rfl ?_; intro g4 cap4 w4 hown4 hgrow4 hat4 hlt4))
      refine ⟨⟨j + 1, some ⟨g4, 0, none⟩, cap4, by omega, by simp, rfl, ⟨?_, fun h => by rw [preL_len] at h; omega⟩, ?_⟩, by simp [intOf]; omega⟩
      · rw [HNext.out, preL_len]; exact hown4
      · exact (below_two HB3.out ((Below.refl _ _).alloc (Nat.le_refl _) _)).grown hgrow4 (by simp; omega) (fun q hq => (HRow3.out.lt q hq).1)
    · obtain rfl : j = len := by omega
      have HML : Hid (∀ x ∈ preL (mD k s) j, x < 2 ^ k) := mD_lt hk HS.out
      have HSt : Hid (RlSt w (preL (mD k s) j) 0 (.slice ao j co) (.slice none 0 0) wr) := by
        refine ⟨?_, World.ownsRow_nil _ _ _ _, Or.inr (Or.inl rfl), HB.out⟩
        rw [upL_zero, List.map_nil, List.append_nil]; exact HRow.out
      clear HRow
      have hL60 : (preL (mD k s) j).length ≤ 60 := by omega
      generalize hLL : preL (mD k s) j = L at *
      have HLL := hide hLL
      clear hLL
      go_wp2_with fail
      go_loopw [5, 8, 9] (fun vl vo i wr => ∃ b : Nat, b ≤ k ∧ i = .int .i64 b ∧ RlSt w L b vl vo wr) (fun _ _ i _ => k - (intOf i).toNat)
      case atStart => exact ⟨0, Nat.zero_le _, rfl, HSt.out⟩
      case round =>
        obtain ⟨b, hb, rfl, hSt⟩ := hrel
        have HR := hide hSt
        clear hSt HSt
        by_cases hlt : b < k
        · obtain ⟨hLn, hO, hAp, hB⟩ := HR.out
          have hUl := upL_le L unit b
          have HAM : Hid (∀ x ∈ L ++ (upL L unit b).map unit, x < 2 ^ k) := fun x hx => by
            rcases List.mem_append.1 hx with hx | hx
            · exact HML.out x hx
            · obtain ⟨u, hu, rfl⟩ := List.mem_map.1 hx
              have := upL_lt hu
              exact Nat.pow_lt_pow_right (by decide) (by omega)
          have hA76 : (L ++ (upL L unit b).map unit).length ≤ 76 := by rw [List.length_append, List.length_map]; omega
          have HIn : Hid (Sp XN (L ++ (upL L unit b).map unit) (unit b) → upL L unit (b + 1) = upL L unit b) := fun h => upL_in ((upL_span L unit b _).1 h)
          have HOut : Hid (¬ Sp XN (L ++ (upL L unit b).map unit) (unit b) → upL L unit (b + 1) = upL L unit b ++ [b]) := fun h => upL_out (fun h9 => h ((upL_span L unit b _).2 h9))
          generalize hUU : upL L unit b = U at *
          have HAA : Hid (L ++ (U ++ [b]).map unit = (L ++ U.map unit) ++ [unit b]) := by rw [Hid, List.map_append, ← List.append_assoc]; rfl
          generalize hAeq : L ++ U.map unit = A at *
          have HAE := hide hAeq
          obtain ⟨q, hq⟩ : ∃ q, A.length = q := ⟨_, rfl⟩
          have HQ := hide hq
          rw [hq] at hA76
          have hO1 := hO
          have HLn := hide hLn
          have HO := hide hO
          have HAp := hide hAp
          have HB1 := hide hB
          have R1 := hide (rk_A hk2 (by omega) hLn (fun x hx => HAM.out x hx))
          have HNb : Hid (∀ x ∈ A ++ [unit b], x < 2 ^ k) := fun x hx => by
            rcases List.mem_append.1 hx with hx | hx
            · exact HAM.out x hx
            · rw [List.mem_singleton.1 hx]; exact Nat.pow_lt_pow_right (by decide) hlt
          have R2 : Hid (∀ W v, LnA W w.heap.size v (A ++ [unit b]) → Calls Tryz.prog 52 #[v, .int .i64 k] W fun e w' => e = .returned (.int .i64 (rkL (A ++ [unit b]) : Nat)) ∧ Below W.heap.size W w') := fun W v hW => rk_A hk2 (by rw [List.length_append, HQ.out]; simp; omega) hW HNb.out
          have RO : Hid (∀ W : World, Calls Tryz.prog 48 #[.slice (some ⟨W.heap.size, 0, none⟩) 1 1, .string ⟨#[]⟩] (W.alloc (.cells #[.int .i64 (b : Nat)] 3)) fun e w' => e = .returned (.agg (linC (unit b).testBit ⟨#[]⟩)) ∧ Below W.heap.size W w') := fun W => by
            have h9 := rof_ok [b] _ ⟨#[]⟩ _ (lst_one W b) (fun p hp => by rw [List.mem_singleton.1 hp]; omega) (by simp)
            rw [maskL_unit] at h9
            exact h9.mono fun e w' ⟨he, hb⟩ => ⟨he, below_two ((Below.refl _ _).alloc (Nat.le_refl _) _) hb⟩
          have hrk : (Sp XN A (unit b) ∧ rkL (A ++ [unit b]) = rkL A) ∨ (¬ Sp XN A (unit b) ∧ rkL (A ++ [unit b]) = rkL A + 1) := by
            by_cases hin : Sp XN A (unit b)
            · exact Or.inl ⟨hin, rkL_in hin⟩
            · exact Or.inr ⟨hin, rkL_out hin⟩
          have HNext : Hid (lcA (A ++ [unit b]) = lcA A ++ (linC (unit b).testBit ⟨#[]⟩).toList) := lcA_snoc _ _
          generalize rkL (A ++ [unit b]) = r2 at *
          generalize rkL A = r1 at *
          have HRK := hide hrk
          have hub : ∀ i, u5.ownBlock = some i → i < wr.heap.size := fun i hi => (hLn.1.lt i hi).2
          have HUB := hide hub
          clear hUU hAeq hq hLn hO hAp hB hO1 hrk hub HR
          generalize hcc : linC (unit b).testBit ⟨#[]⟩ = cc at *
          have HC1 : Hid (cc.size = 17) := by rw [Hid, ← hcc]; rfl
          have HC2 : Hid (cc.all (·.oneCell') = true) := by rw [Hid, ← hcc]; exact linC_one _ _
          have hfill : Array.foldl (fun (cs : Array Value) (x : Value × Nat) => cs.setIfInBounds x.snd x.fst) #[.bool false, .bool false, .bool false, .bool false, .bool false, .bool false, .bool false, .bool false, .bool false, .bool false, .bool false, .bool false, .bool false, .bool false, .bool false, .bool false, .string ⟨#[]⟩] cc.zipIdx 0 17 = cc := by rw [← hcc]; exact fill_lin _ _
          have hcs : cc.size = 17 := HC1.out
          clear hcc
          go_wp2_with fail
          refine (R1.out).mono ?_
          rintro e w1 ⟨rfl, hb1⟩
          have HW1 := hide hb1
          clear hb1 R1
          go_wp2_with fail
          refine (RO.out w1).mono ?_
          rintro e w2 ⟨rfl, hb2⟩
          have HW2 := hide (below_two HW1.out hb2)
          clear hb2 RO
          have hL0 := linF_new w2 (fun _ => false) ⟨#[]⟩ 101
          have HTh := hide hL0.there
          have HPut : Hid ((((w2.alloc (.cells (linC (fun _ => false) ⟨#[]⟩) 101)).setCells w2.heap.size 0 cc.toList)).rangeAt w2.heap.size 0 cc.toList) := World.rangeAt_setCells_same _ _ _ _ (by rw [Array.length_toList, HC1.out]; exact HTh.out)
          have hBs : Below w2.heap.size w2 ((w2.alloc (.cells (linC (fun _ => false) ⟨#[]⟩) 101)).setCells w2.heap.size 0 cc.toList) := sets_below (Nat.le_refl _) _ _ _ ((Below.refl w2.heap.size w2).alloc (Nat.le_refl _) _)
          have HW3 := hide (below_two HW2.out hBs)
          obtain ⟨W3, hW3⟩ : ∃ W3, W3 = (w2.alloc (.cells (linC (fun _ => false) ⟨#[]⟩) 101)).setCells w2.heap.size 0 cc.toList := ⟨_, rfl⟩
          rw [← hW3] at HW3 HPut hBs
          have hs2 : wr.heap.size ≤ w2.heap.size := HW2.out.size
          have hs3 : w2.heap.size ≤ W3.heap.size := hBs.size
          have hs0 : w.heap.size ≤ wr.heap.size := HB1.out.size
          have HLn3 := hide (HLn.out.below HW3.out)
          have HO3 := hide (ownU HO.out HW3.out)
          have HR3 : Hid (W3.ownsRow w.heap.size 101 17 u5 q (lcA A)) := by rw [Hid, ← HQ.out]; exact HLn3.out.1
          have HB3 := hide (below_two HB1.out HW3.out)
          have HWeq := hide hW3
          clear hW3 hL0 hBs
          go_wp2_with (first
            | (refine wpList_store_mid rfl 101 _ _ rfl w2.heap.size 0 cc rfl rfl (by rw [HC1.out]; exact HTh.out) (by rw [HC1.out]; exact Tryz.sizeLine) HC2.out ?_; have hgen := HWeq.out; unfold linC at hgen; rw [← hgen]; clear hgen)
            | (refine wpList_load_mid rfl 101 _ rfl w2.heap.size 0 rfl cc.toList _ HPut.out Tryz.underlying101 rfl (by rw [Array.length_toList, HC1.out]; exact Tryz.sizeLine) ?_)
            | (at_builtin; refine wpList_append_keeps _ rfl _ _ 99 rfl w.heap.size 101 i0 (.agg (linC (fun _ => false) ⟨#[]⟩)) 17 32 Tryz.underlying99 Hi.out Hz0.out Hz1.out Hz2.out rfl (by decide) _ _ _ rfl (HR3.out.alloc _) ⟨W3.heap.size, 0, none⟩ 1 1 cc.toList rfl (by rw [Array.length_toList, HC1.out]) (World.news_of_block (cs := cc) (t := 101) (fr := (0, 0)) (heap_alloc_new W3 _)) (fun u hu => (Array.all_eq_true_iff_forall_mem.1 HC2.out) u (by simpa using hu)) (by decide) (by unfold maxLen; omega) (by omega) (by simp; omega) _ rfl ?_; intro g4 cap4 w4 hown4 hkeep4 hgrow4 hat4 hlt4))
          have HN4 : Hid (LnA w4 w.heap.size (.slice (some ⟨g4, 0, none⟩) (q + 1) cap4) (A ++ [unit b])) := by
            refine ⟨?_, fun h => by rw [List.length_append] at h; simp at h⟩
            rw [HNext.out, List.length_append, HQ.out]; exact hown4
          have hA3 : Below W3.heap.size W3 (W3.alloc (.cells cc 101)) := (Below.refl _ _).alloc (Nat.le_refl _) _
          have HO4 : Hid (w4.ownsRow w.heap.size 3 1 u8 U.length (iV U)) := (ownU HO3.out hA3).kept hgrow4 HAp.out.kept
          have HP4 : Hid (w4.rangeAt w2.heap.size 0 cc.toList) := rangeAt_grown (rangeAt_below HPut.out hA3) hgrow4 (fun e => by have := HUB.out _ e.symm; omega)
          have HB4 : Hid (Below w.heap.size w w4) := (below_two HB3.out hA3).grown hgrow4 (by simp; omega) (fun i hi => (HR3.out.lt i hi).1)
          have HK4 : Hid (w4.ownsRow w.heap.size 101 17 u5 q (lcA A)) := hkeep4
          clear hown4 hkeep4 hgrow4 hat4 hlt4 hA3 HO3 HR3 HLn3 HB3 HTh
          refine (R2.out _ _ HN4.out).mono ?_
          rintro e w5 ⟨rfl, hb5⟩
          have HO5 := hide (ownU HO4.out hb5)
          have HP5 := hide (rangeAt_below HP4.out hb5)
          have HB5 := hide (below_two HB4.out hb5)
          have HK5 := hide (ownU HK4.out hb5)
          have hs5 : w.heap.size ≤ w5.heap.size := HB5.out.size
          clear hb5 HO4 HP4 HB4 HK4 HN4 R2
          rcases HRK.out with ⟨hin, hr⟩ | ⟨hin, hr⟩
          · have HUp := hide (HIn.out hin)
            subst hr
            clear hin
            go_wp2
            go_roundw
            case rel =>
              refine ⟨b + 1, by omega, by go_num, ⟨?_, fun h => ?_⟩, by rw [HUp.out]; exact HO5.out, HAp.out, HB5.out⟩
              · rw [HUp.out, HAE.out, HQ.out]; exact HK5.out
              · rw [HUp.out, HAE.out] at h; exact HLn.out.2 h
            case measure => simp [intOf]; omega
          · have HUp := hide (HOut.out hin)
            subst hr
            clear hin
            have hUq : U.length ≤ 16 := by omega
            generalize hul : U.length = ul at *
            have HUL := hide hul
            clear hul
            go_wp2_with (first
              | (refine wpList_load_mid rfl 101 _ rfl w2.heap.size 0 rfl cc.toList _ HP5.out Tryz.underlying101 rfl (by rw [Array.length_toList, HC1.out]; exact Tryz.sizeLine) ?_)
              | (at_builtin; refine wpList_append_lies _ rfl _ _ 99 rfl w.heap.size 101 i0 (.agg (linC (fun _ => false) ⟨#[]⟩)) 17 32 Tryz.underlying99 Hi.out Hz0.out Hz1.out Hz2.out rfl (by decide) _ _ _ rfl (HK5.out.alloc _) ⟨w5.heap.size, 0, none⟩ 1 1 cc.toList rfl (by rw [Array.length_toList, HC1.out]) (World.news_of_block (cs := cc) (t := 101) (fr := (0, 0)) (heap_alloc_new w5 _)) (fun u hu => (Array.all_eq_true_iff_forall_mem.1 HC2.out) u (by simpa using hu)) (by decide) (by unfold maxLen; omega) (by omega) (by simp; omega) _ rfl ?_; intro g6 cap6 w6 hown6 hgrow6 hat6 hlt6; have HO6 := hide ((HO5.out.alloc (.cells cc 101)).kept hgrow6 HAp.out.kept); have HB6 := hide ((HB5.out.alloc hs5 (.cells cc 101)).grown hgrow6 (by simp; omega) (fun q hq => (HK5.out.lt q hq).1)); have HAp6 := hide (apart_any (n := q + 1) (c := cap6) (HO5.out.alloc (.cells cc 101)) HAp.out (Nat.le_refl _) hat6); have hs6 := HB6.out.size)
              | (at_builtin; refine wpList_append_lies _ rfl _ _ 22 rfl w.heap.size 3 i1 (.int .i64 0) 1 8 Tryz.underlying22 Hi1.out Hy0.out Hy1.out Hy2.out rfl (by decide) _ _ _ rfl (HO6.out.alloc _) ⟨w6.heap.size, 0, none⟩ 1 1 [.int .i64 (b : Nat)] rfl rfl (cell_one_new _ _ _) (fun x hx => by simp at hx; subst hx; rfl) (by decide) (by unfold maxLen; omega) (by omega) (by simp; omega) _ rfl ?_; intro g7 cap7 w7 hown7 hgrow7 hat7 hlt7))
            go_roundw
            case rel =>
              refine ⟨b + 1, by omega, by go_num, ⟨?_, fun h => ?_⟩, ?_, (apart_any (hown6.alloc _) HAp6.out.symm (Nat.le_refl _) hat7).symm, (HB6.out.alloc hs6 _).grown hgrow7 (by simp; omega) (fun q hq => (HO6.out.lt q hq).1)⟩
              · rw [HUp.out, HAA.out, HNext.out, List.length_append, HQ.out]
                exact (hown6.alloc _).kept hgrow7 HAp6.out.symm.kept
              · rw [HUp.out, HAA.out, List.length_append] at h; simp at h
              · rw [HUp.out, List.length_append, HUL.out, iV_snoc]; exact hown7
            case measure => simp [intOf]; omega
        · obtain rfl : b = k := by omega
          obtain ⟨_, hO, _, hB⟩ := HR.out
          have HO := hide hO
          have HB2 := hide hB
          clear hO hB HR
          go_wp2
          go_ret
          exact ⟨_, rfl, by rw [HLL.out]; exact HO.out, HB2.out⟩
end Go.Proofs.YtjgifjkdgoijmaaGreatDoor
