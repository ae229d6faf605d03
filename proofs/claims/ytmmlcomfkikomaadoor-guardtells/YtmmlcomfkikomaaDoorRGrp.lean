/-
  Our own contracts of the document's Groups and Add over this seat's translation. Lemmas for the laws above; no statement is proved here.
-/
import Derived.Test.YtmmlcomfkikomaaDoorGdXor
import Derived.Test.YtmmlcomfkikomaaDoorBlkR
import Derived.Test.YtmmlcomfkikomaaDoorRXor
import Derived.Test.YtmmlcomfkikomaaDoorZero
import Derived.Test.YtmmlcomfkikomaaDoorZeroA
namespace Go.Proofs.YtmmlcomfkikomaaDoor
open Go.RowKit
set_option linter.unusedVariables false
set_option maxRecDepth 100000

set_option maxHeartbeats 1000000 in
theorem rgroups_ok (n each : Nat) (w : World) (hn : n ≤ 16) (he : 1 ≤ each) (he2 : each ≤ 16) :
    Calls Tryd.prog 6 #[.int .i64 n, .int .i64 each] w fun e w' => e = .returned (.int .i64 (gN n each : Nat)) ∧ w = w' := by
  have HG : Hid (∀ q, q < gN n each ↔ q * each < n) := gN_lt he
  have HGL : Hid (gN n each ≤ n) := gN_le n each he
  go_enter Tryd.func6, Tryd.ntmps6
  go_wp2
  go_loopw [5, 6] (fun s5 s6 wr => ∃ q i : Nat, s5 = .int .i64 q ∧ s6 = .int .i64 i ∧ i = q * each ∧ q ≤ gN n each ∧ w = wr) (fun _ s6 _ => n - (intOf s6).toNat)
  case atStart => exact ⟨0, 0, rfl, rfl, by simp, Nat.zero_le _, rfl⟩
  case round =>
    obtain ⟨q, i, rfl, rfl, hi, hq, rfl⟩ := hrel
    have HI := hide hi
    have HQ := hide hq
    have hq16 : q ≤ 16 := by have := HGL.out; omega
    by_cases hlt : i < n
    · have HQ1 : Hid (q < gN n each) := (HG.out q).2 (by rw [← HI.out]; exact hlt)
      clear hi hq
      go_wp2
      go_roundw
      case rel => exact ⟨q + 1, i + each, by go_num, by go_num, by rw [Nat.succ_mul, HI.out], HQ1.out, by simp⟩
      case measure => simp [intOf]; omega
    · have HQ1 : Hid (q = gN n each) := by
        have h1 : ¬ q < gN n each := fun h => hlt (by rw [HI.out]; exact (HG.out q).1 h)
        have := HQ.out
        unfold Hid
        omega
      clear hi hq
      go_wp2
      go_ret
      exact ⟨by rw [HQ1.out]; rfl, rfl⟩

theorem sumL_nil (g : Nat → ByteArray) : sumL g [] = zerosB (g 0).size := bytes_ext (by rw [sumL_size, zerosB_size]) fun i hi => by
  rw [sumL_size] at hi
  rw [sumL_at _ _ _ hi, zerosB_at]; rfl
theorem sumL_snoc (g : Nat → ByteArray) (l : List Nat) (r : Nat) : xorB (sumL g l) (g r) = sumL g (l ++ [r]) := bytes_ext (by rw [xorB_size, sumL_size, sumL_size]) fun i hi => by
  rw [xorB_size, sumL_size] at hi
  rw [xorB_at _ _ _ (by rw [sumL_size]; exact hi), sumL_at _ _ _ hi, sumL_at _ _ _ hi, xl_append]
  simp [xl]
theorem strV_oneR (f : Nat → ByteArray) (n : Nat) : ∀ u ∈ strV f n, u.oneCell' = true := fun u hu => by
  obtain ⟨r, _, rfl⟩ := List.mem_map.1 hu
  rfl

set_option maxHeartbeats 4000000 in
theorem radd_ok (b o n cap each : Nat) (g : Nat → ByteArray) (w : World) (hB : Blks w b o n g) (he : 1 ≤ each) (he2 : each ≤ 16) (hf : n + gN n each ≤ 16) :
    Calls Tryd.prog 7 #[.slice (some ⟨b, o, none⟩) n cap, .int .i64 each] w fun e w' => ∃ v, e = .returned v ∧ w'.ownsRow w.heap.size 9 1 v (n + gN n each) (strV (addG g n each) (n + gN n each)) ∧ Below w.heap.size w w' := by
  obtain ⟨i0, hi, hz0, hz1, hz2⟩ := info_parts Tryd.infoStr
  have HI := hide hi
  have HZ0 := hide hz0
  have HZ1 := hide hz1
  have HZ2 := hide hz2
  clear hi hz0 hz1 hz2
  have hn0 := hB.pos
  have hn16 := hB.most
  have HB := hide hB
  have HG : Hid (∀ q, q < gN n each ↔ q * each < n) := gN_lt he
  have HF := hide hf
  have HC : Hid (∀ j u, (strV g n)[j]? = some u → w.cell? ((⟨b, o, none⟩ : Addr).add j) = some u) := fun j u hu => by
    have hj : j < n := by
      have h9 := (List.getElem?_eq_some_iff.1 hu).1
      rw [strV_len] at h9; exact h9
    rw [strV_at _ _ _ hj] at hu
    rw [Addr.add_lit, HB.out.cells j hj, hu]
  have h8 := hB.eight
  have HS : Hid (∀ i, i < n → (g i).size = (g 0).size) := hB.same
  clear hB hf
  go_enter Tryd.func7, Tryd.ntmps7
  go_wp2_with (at_builtin; refine wpList_append_own _ rfl _ _ 22 rfl w.heap.size 9 i0 (.string ⟨#[]⟩) 1 16 Tryd.underlying22 HI.out HZ0.out HZ1.out HZ2.out rfl (by decide) _ _ _ rfl (World.ownsRow_nil w _ _ _) ⟨b, o, none⟩ n cap (strV g n) rfl (by rw [strV_len]; omega) HC.out (strV_oneR _ _) (by unfold maxLen; omega) (by omega) (Nat.le_refl _) ?_; intro v7 w7 hown7 hgrow7 _; have HZ7 := hide hown7; have HG7 := hide hgrow7; clear hown7 hgrow7)
  go_loopw [5, 6] (fun s5 s6 wr => ∃ q i : Nat, s6 = .int .i64 i ∧ i = q * each ∧ q ≤ gN n each ∧ wr.ownsRow w.heap.size 9 1 s5 (n + q) (strV (addG g n each) (n + q)) ∧ Below w.heap.size w wr) (fun _ s6 _ => n - (intOf s6).toNat)
  case atStart =>
    refine ⟨0, 0, rfl, by simp, Nat.zero_le _, ?_, (Below.refl _ w).grown HG7.out (Nat.le_refl _) (fun k hk => by cases hk)⟩
    have h9 := HZ7.out
    rw [Nat.add_zero, strV_congr (g := g) (fun i hi => addG_fst hi)]
    simpa using h9
  case round =>
    obtain ⟨q, i, rfl, hi, hq, hrow, hb⟩ := hrel
    have HIQ := hide hi
    have HQ := hide hq
    have HR := hide hrow
    have HBr := hide hb
    obtain ⟨g5, c5, rfl⟩ := ownsRow_pos hrow (by omega)
    clear hi hq hrow hb
    by_cases hlt : i < n
    · have HQ1 : Hid (q < gN n each) := (HG.out q).2 (by rw [← HIQ.out]; exact hlt)
      have hc0 := cell_below HBr.out (HB.out.cells 0 hn0)
      simp only [Nat.add_zero] at hc0
      have KZ := hide (fun W => zero_any (g 0).size W (by omega))
      go_wp2_with fail
      refine (KZ.out _).mono ?_
      rintro e w1 ⟨rfl, hw1⟩
      subst hw1
      have HSN := hide (sumL_nil g)
      have hq16 : n + q < 16 := by have := HQ1.out; have := HF.out; omega
      go_wp2_with fail
      go_loopw [7, 8] (fun s7 s8 wq => ∃ k j : Nat, j = i + k ∧ k ≤ min each (n - i) ∧ s7 = .string (sumL g (List.range' i k)) ∧ s8 = .int .i64 j ∧ Below wr.heap.size wr wq) (fun _ s8 _ => n - (intOf s8).toNat)
      case atStart => exact ⟨0, i, rfl, Nat.zero_le _, by rw [← HSN.out]; rfl, rfl, Below.refl _ _⟩
      case round =>
        obtain ⟨k, j, hj, hk, rfl, rfl, hb2⟩ := hrel
        have HJ := hide hj
        have HK := hide hk
        have HB2 := hide hb2
        have hkl : k ≤ each ∧ k ≤ n - i := by omega
        have hji : i ≤ j := by omega
        have hjk : j - i = k := by omega
        clear hj hk hb2
        by_cases h1 : j < i + each
        · have h1I : (j : Int) < (i : Int) + (each : Int) := by omega
          by_cases h2 : j < n
          · have hcj := cell_below (below_two HBr.out HB2.out) (HB.out.cells j h2)
            have KX := hide (rxor_ok (sumL g (List.range' i k)) (g j) wr (by rw [sumL_size]; omega) (by rw [sumL_size]; exact HS.out j h2))
            rw [sumL_snoc] at KX
            have HKM : Hid (k + 1 ≤ min each (n - i)) := by unfold Hid; omega
            clear hjk
            go_wp2_with fail
            refine (KX.out).mono ?_
            rintro e w1 ⟨rfl, hb1⟩
            have HB3 := hide (below_two HB2.out hb1)
            clear hb1
            go_wp2
            go_roundw
            case rel => exact ⟨k + 1, j + 1, by have := HJ.out; omega, HKM.out, by rw [range_snoc, ← HJ.out], by go_num, HB3.out⟩
            case measure => simp [intOf]; omega
          · have HKM : Hid (k = min each (n - i)) := by unfold Hid; omega
            clear hjk
            have HR2 := hide (own_under' HR.out HB2.out)
            have hsz2 : w.heap.size ≤ wr.heap.size := (below_two HBr.out HB2.out).size
            go_wp2_with (at_builtin; refine wpList_append_own _ rfl _ _ 22 rfl w.heap.size 9 i0 (.string ⟨#[]⟩) 1 16 Tryd.underlying22 HI.out HZ0.out HZ1.out HZ2.out rfl (by decide) _ _ _ rfl (HR2.out.alloc _) ⟨wr.heap.size, 0, none⟩ 1 1 [.string (sumL g (List.range' i k))] rfl rfl (cell_one_new _ _ _) (by simp [Value.oneCell']) (by unfold maxLen; omega) (by omega) (by simp; omega) ?_; intro v9 w9 hown9 hgrow9 _; have HZ9 := hide hown9; have HG9 := hide hgrow9; clear hown9 hgrow9)
            go_roundw
            case rel =>
              refine ⟨q + 1, i + each, by go_num, by rw [Nat.succ_mul, HIQ.out], HQ1.out, ?_, ((below_two HBr.out HB2.out).alloc hsz2 _).grown HG9.out (by simp; omega) (fun k hk => (HR2.out.lt k hk).1)⟩
              have h9 := HZ9.out
              rw [show List.range' i k = gL n each q by unfold gL; rw [← HIQ.out, HKM.out], show Value.string (sumL g (gL n each q)) = .string (addG g n each (n + q)) by rw [addG_snd], strV_snoc] at h9
              exact h9
            case measure => simp [intOf]; omega
        · have HKM : Hid (k = min each (n - i)) := by unfold Hid; omega
          have h1I : ¬ (j : Int) < (i : Int) + (each : Int) := by omega
          clear hjk
          have HR2 := hide (own_under' HR.out HB2.out)
          have hsz2 : w.heap.size ≤ wr.heap.size := (below_two HBr.out HB2.out).size
          go_wp2_with (at_builtin; refine wpList_append_own _ rfl _ _ 22 rfl w.heap.size 9 i0 (.string ⟨#[]⟩) 1 16 Tryd.underlying22 HI.out HZ0.out HZ1.out HZ2.out rfl (by decide) _ _ _ rfl (HR2.out.alloc _) ⟨wr.heap.size, 0, none⟩ 1 1 [.string (sumL g (List.range' i k))] rfl rfl (cell_one_new _ _ _) (by simp [Value.oneCell']) (by unfold maxLen; omega) (by omega) (by simp; omega) ?_; intro v9 w9 hown9 hgrow9 _; have HZ9 := hide hown9; have HG9 := hide hgrow9; clear hown9 hgrow9)
          go_roundw
          case rel =>
            refine ⟨q + 1, i + each, by go_num, by rw [Nat.succ_mul, HIQ.out], HQ1.out, ?_, ((below_two HBr.out HB2.out).alloc hsz2 _).grown HG9.out (by simp; omega) (fun k hk => (HR2.out.lt k hk).1)⟩
            have h9 := HZ9.out
            rw [show List.range' i k = gL n each q by unfold gL; rw [← HIQ.out, HKM.out], show Value.string (sumL g (gL n each q)) = .string (addG g n each (n + q)) by rw [addG_snd], strV_snoc] at h9
            exact h9
          case measure => simp [intOf]; omega
    · have HQ1 : Hid (q = gN n each) := by
        have h1 : ¬ q < gN n each := fun h => hlt (by rw [HIQ.out]; exact (HG.out q).1 h)
        have := HQ.out
        unfold Hid
        omega
      go_wp2
      go_ret
      refine ⟨_, rfl, ?_, HBr.out⟩
      rw [← HQ1.out]
      exact HR.out
end Go.Proofs.YtmmlcomfkikomaaDoor
