/-
  Our own contracts of the document's Heal over this seat's translation. Lemmas for the laws above; no statement is proved here.
-/
import Derived.Test.YtmmlcomfkikomaaDoorRHealN
import Derived.Deep.AppendLies
namespace Go.Proofs.YtmmlcomfkikomaaDoor
open Go.RowKit
set_option linter.unusedVariables false
set_option maxRecDepth 100000

set_option maxHeartbeats 1000000 in
theorem rheal_check (v : Value) (a : Option Addr) (m lcap : Nat) (each : Int) (w : World) (x : Int) (hx : 1 ≤ x)
    (hC : Calls Tryd.prog 5 #[v] w fun e w' => e = .returned (.int .i64 x) ∧ Below w.heap.size w w') :
    Calls Tryd.prog 11 #[v, .slice a m lcap, .int .i64 each] w fun e w' => e = .returned (.tuple #[.slice none 0 0, .int .i64 x]) ∧ Below w.heap.size w w' := by
  have K := hide hC
  have q1 : (x == 0) = false := by rw [beq_eq_false_iff_ne]; omega
  have q2 : (x != 0) = true := by simp only [bne, q1]; rfl
  clear hC hx
  go_enter Tryd.func11, Tryd.ntmps11
  go_wp2_with fail
  refine (K.out).mono ?_
  rintro e w1 ⟨rfl, hb⟩
  go_wp2
  go_ret2
  exact ⟨rfl, hb⟩

theorem Blks.rcheck {w : World} {b o n : Nat} {g : Nat → ByteArray} (h : Blks w b o n g) (cap : Nat) :
    Calls Tryd.prog 5 #[.slice (some ⟨b, o, none⟩) n cap] w fun e w' => e = .returned (.int .i64 0) ∧ Below w.heap.size w w' :=
  rblocks_ok b o n cap g w h.pos h.most h.cells h.one h.eight h.same

set_option maxHeartbeats 1000000 in
theorem rheal_shape (b o len cap : Nat) (a : Option Addr) (m lcap : Nat) (each : Int) (g : Nat → ByteArray) (w : World) (hB : Blks w b o len g) (hm : m ≠ len) (hm2 : m ≤ maxLen) :
    Calls Tryd.prog 11 #[.slice (some ⟨b, o, none⟩) len cap, .slice a m lcap, .int .i64 each] w fun e w' => e = .returned (.tuple #[.slice none 0 0, .int .i64 3]) ∧ Below w.heap.size w w' := by
  have K := hide (hB.rcheck cap)
  have hl := hB.most
  have q1 : ((m : Int) == (len : Int)) = false := by rw [beq_eq_false_iff_ne]; omega
  have q2 : ((m : Int) != (len : Int)) = true := by simp only [bne, q1]; rfl
  unfold maxLen at hm2
  clear hB
  go_enter Tryd.func11, Tryd.ntmps11
  go_wp2_with fail
  refine (K.out).mono ?_
  rintro e w1 ⟨rfl, hb⟩
  go_wp2
  go_ret2
  exact ⟨rfl, hb⟩

set_option maxHeartbeats 1000000 in
theorem rheal_range (b o len cap : Nat) (a : Option Addr) (lcap : Nat) (each : Int) (g : Nat → ByteArray) (w : World) (hB : Blks w b o len g) (he : each < 1 ∨ 16 < each) :
    Calls Tryd.prog 11 #[.slice (some ⟨b, o, none⟩) len cap, .slice a len lcap, .int .i64 each] w fun e w' => e = .returned (.tuple #[.slice none 0 0, .int .i64 1]) ∧ Below w.heap.size w w' := by
  have K := hide (hB.rcheck cap)
  have hl := hB.most
  have q2 : ((len : Int) != (len : Int)) = false := by simp
  clear hB
  rcases he with he | he
  · go_enter Tryd.func11, Tryd.ntmps11
    go_wp2_with fail
    refine (K.out).mono ?_
    rintro e w1 ⟨rfl, hb⟩
    go_wp2
    go_ret2
    exact ⟨rfl, hb⟩
  · have he1 : ¬ each < 1 := by omega
    go_enter Tryd.func11, Tryd.ntmps11
    go_wp2_with fail
    refine (K.out).mono ?_
    rintro e w1 ⟨rfl, hb⟩
    go_wp2
    go_ret2
    exact ⟨rfl, hb⟩

theorem ownsRow_posR {W : World} {base e size n : Nat} {v : Value} {xs : List Value} (h : W.ownsRow base e size v (0 + n) xs) (h0 : 0 < n) : ∃ g cap, v = .slice (some ⟨g, 0, none⟩) n cap := by
  rw [Nat.zero_add] at h
  exact ownsRow_pos h h0
set_option maxHeartbeats 8000000 in
theorem rheal_any (b o len cap lb lo lcap each : Nat) (g : Nat → ByteArray) (lk : Nat → Bool) (w : World) (hB : Blks w b o len g) (hcap : len ≤ cap) (hcm : cap ≤ maxLen)
    (hlk : ∀ i, i < len → w.cell? ⟨lb, lo + i, none⟩ = some (.bool (lk i))) (he : 1 ≤ each) (he2 : each ≤ 16) :
    Calls Tryd.prog 11 #[.slice (some ⟨b, o, none⟩) len cap, .slice (some ⟨lb, lo, none⟩) len lcap, .int .i64 each] w fun e w' =>
      (∃ n, n < len ∧ n + gN n each = len ∧ HealR g lk n each w e w') ∨ ((∀ n, n < len → n + gN n each ≠ len) ∧ e = .returned (.tuple #[.slice none 0 0, .int .i64 3]) ∧ Below w.heap.size w w') := by
  obtain ⟨i0, hi, hz0, hz1, hz2⟩ := info_parts Tryd.infoStr
  have HI := hide hi
  have HZ0 := hide hz0
  have HZ1 := hide hz1
  have HZ2 := hide hz2
  clear hi hz0 hz1 hz2
  obtain ⟨j0, hi, hz0, hz1, hz2⟩ := info_parts Tryd.infoInt
  have HJ := hide hi
  have HY0 := hide hz0
  have HY1 := hide hz1
  have HY2 := hide hz2
  clear hi hz0 hz1 hz2
  have hl0 := hB.pos
  have hl16 := hB.most
  have h8 := hB.eight
  have HB := hide hB
  have HL := hide hlk
  have HS : Hid (∀ i, i < len → (g i).size = (g 0).size) := hB.same
  have K := hide (hB.rcheck cap)
  have KG := hide (fun (n : Nat) W (hn : n ≤ 16) => rgroups_ok n each W hn he he2)
  have q2 : ((len : Int) != (len : Int)) = false := by simp
  unfold maxLen at hcm
  clear hB hlk
  go_enter Tryd.func11, Tryd.ntmps11
  go_wp2_with fail
  refine (K.out).mono ?_
  rintro e w1 ⟨rfl, hb1⟩
  have HB1 := hide hb1
  clear hb1
  go_wp2_with fail
  go_loopw [9] (fun s9 wr => ∃ n : Nat, 1 ≤ n ∧ n ≤ len ∧ s9 = .int .i64 n ∧ w1 = wr ∧ ∀ p, p < n → p + gN p each ≠ len) (fun s9 _ => len - (intOf s9).toNat)
  case atStart =>
    refine ⟨1, Nat.le_refl _, hl0, rfl, rfl, fun p hp => ?_⟩
    have := gN_le p each he
    omega
  case round =>
    obtain ⟨n, hn1, hnl, rfl, rfl, hno⟩ := hrel
    have HNO := hide hno
    clear hno
    by_cases hlt : n < len
    · have KN := hide (KG.out n w1 (by omega))
      have hgn := gN_le n each he
      by_cases hq : n + gN n each = len
      · have hqI : (n : Int) + (gN n each : Nat) = (len : Int) := by omega
        have q3 : (((n : Int) + (gN n each : Nat)) != (len : Int)) = false := by rw [hqI]; simp
        have q4 : ((n : Int) + (gN n each : Nat) == (len : Int)) = true := by rw [beq_iff_eq]; omega
        have HNQ := hide hq
        have HGM : Hid (∀ q, q < gN n each ↔ q * each < n) := gN_lt he
        have HC : Hid (∀ j u, (strV g n)[j]? = some u → w1.cell? ((⟨b, o, none⟩ : Addr).add j) = some u) := fun j u hu => by
          have hj : j < n := by
            have h9 := (List.getElem?_eq_some_iff.1 hu).1
            rw [strV_len] at h9; exact h9
          rw [strV_at _ _ _ hj] at hu
          rw [Addr.add_lit, cell_below HB1.out (HB.out.cells j (by omega)), hu]
        clear hq hqI
        generalize hGI : ((gN n each : Nat) : Int) = GI at *
        have hGIb : 0 ≤ GI ∧ GI ≤ 16 := by omega
        obtain ⟨hGIb1, hGIb2⟩ := hGIb
        clear hGI
        go_wp2_with fail
        refine (KN.out).mono ?_
        rintro e w2 ⟨rfl, rfl⟩
        have hnc : n ≤ cap := by omega
        go_wp2_with (at_builtin; refine wpList_append_own _ rfl _ _ 22 rfl w1.heap.size 9 i0 (.string ⟨#[]⟩) 1 16 Tryd.underlying22 HI.out HZ0.out HZ1.out HZ2.out rfl (by decide) _ _ _ rfl (World.ownsRow_nil w1 _ _ _) ⟨b, o, none⟩ n cap (strV g n) rfl (by rw [strV_len]; omega) HC.out (strV_oneR _ _) (by unfold maxLen; omega) (by omega) (Nat.le_refl _) ?_; intro v7 w7 hown7 hgrow7 _; obtain ⟨go, co, rfl⟩ := ownsRow_posR hown7 hn1; have HZ7 := hide hown7; have HG7 := hide hgrow7; clear hown7 hgrow7)
        have hb7 : Below w1.heap.size w1 w7 := (Below.refl _ w1).grown HG7.out (Nat.le_refl _) (fun k hk => by cases hk)
        have hr7 : w7.ownsRow w1.heap.size 9 1 (.slice (some ⟨go, 0, none⟩) n co) n (strV g n) := by
          have h9 := HZ7.out
          simpa using h9
        have HR7 := hide hr7
        have HB7 := hide (below_two HB1.out hb7)
        have hgo : w.heap.size ≤ go := Nat.le_trans HB1.out.size (hr7.lt go rfl).1
        clear hb7 hr7 HZ7 HG7
        go_loopw [11] (fun s11 wr => ∃ q : Nat, s11 = .int .i64 q ∧ q ≤ gN n each ∧ (∀ p, p < q → hFlt g lk n each p = 0) ∧ wr.ownsRow w.heap.size 9 1 (.slice (some ⟨go, 0, none⟩) n co) n (strV (healF g lk n each q) n) ∧ Below w.heap.size w wr) (fun s11 _ => gN n each - (intOf s11).toNat)
        case atStart =>
          refine ⟨0, rfl, Nat.zero_le _, fun p hp => absurd hp (Nat.not_lt_zero _), ?_, HB7.out⟩
          rw [strV_congr (g := g) (fun i hi => healF_zero g lk n each i)]
          exact own_mono HR7.out HB1.out.size
        case round =>
          obtain ⟨q, rfl, hqg, hgood, hrow, hbr⟩ := hrel
          have HQG := hide hqg
          have HGD := hide hgood
          have HR := hide hrow
          have HBr := hide hbr
          have hq16 : q ≤ 16 := by omega
          obtain ⟨i, hi⟩ : ∃ i : Nat, i = q * each := ⟨_, rfl⟩
          have hiI : (q : Int) * (each : Int) = (i : Int) := by rw [hi, Int.natCast_mul]
          have HIQ := hide hi
          have hi9 : i ≤ 256 := by rw [hi]; exact Nat.mul_le_mul hq16 he2
          clear hqg hgood hrow hbr hi
          by_cases hqlt : i < n
          · have HQ1 : Hid (q < gN n each) := (HGM.out q).2 (by rw [← HIQ.out]; exact hqlt)
            have hqiI : (i : Int) < (n : Int) := by omega
            have hqn : n + q < len := by have := HQ1.out; have := HNQ.out; omega
            have HGK := hide (grpOk he hlt HNQ.out hl16 HQ1.out)
            obtain ⟨wg, hwg⟩ : ∃ wg, wg = wr := ⟨_, rfl⟩
            subst hwg
            have hwg9 : w.heap.size ≤ wg.heap.size := HBr.out.size
            go_wp2_with fail
            go_loopw [12, 13] (fun s12 s13 wq => ∃ k j : Nat, j = i + k ∧ k ≤ min each (n - i) ∧ wq.ownsRow wg.heap.size 3 1 s12 k (toV (List.range' i k)) ∧ s13 = .int .i64 j ∧ Below wg.heap.size wg wq) (fun _ s13 _ => n - (intOf s13).toNat)
            case atStart => exact ⟨0, i, rfl, Nat.zero_le _, World.ownsRow_nil _ _ _ _, rfl, Below.refl _ _⟩
            case round =>
              obtain ⟨k, j, hj, hk, hof, rfl, hb2⟩ := hrel
              have HJJ := hide hj
              have HK := hide hk
              have HOF := hide hof
              have HB2 := hide hb2
              have hkl : k ≤ each ∧ k ≤ n - i := by omega
              have hji : i ≤ j := by omega
              have hjk : j - i = k := by omega
              have hs2 : wg.heap.size ≤ wr.heap.size := hb2.size
              clear hj hk hof hb2
              by_cases h1 : j < i + each
              · have h1I : (j : Int) < (i : Int) + (each : Int) := by omega
                by_cases h2 : j < n
                · have HKM : Hid (k + 1 ≤ min each (n - i)) := by unfold Hid; omega
                  have hk16 : k ≤ 16 := by omega
                  clear hjk
                  go_wp2_with (at_builtin; refine wpList_append_own _ rfl _ _ 47 rfl wg.heap.size 3 j0 (.int .i64 0) 1 8 Tryd.underlying47 HJ.out HY0.out HY1.out HY2.out rfl (by decide) _ _ _ rfl (HOF.out.alloc _) ⟨wr.heap.size, 0, none⟩ 1 1 [.int .i64 (j : Nat)] rfl rfl (cell_one_new _ _ _) (by simp [Value.oneCell']) (by unfold maxLen; omega) (by omega) (by simp; omega) ?_; intro v9 w9 hown9 hgrow9 _; have HZ9 := hide hown9; have HG9 := hide hgrow9; clear hown9 hgrow9)
                  go_roundw
                  case rel =>
                    refine ⟨k + 1, j + 1, by have := HJJ.out; omega, HKM.out, ?_, by go_num, (HB2.out.alloc hs2 _).grown HG9.out (by simp; omega) (fun k hk => (HOF.out.lt k hk).1)⟩
                    have h9 := HZ9.out
                    rw [range_snoc, ← HJJ.out]
                    simpa [toV] using h9
                  case measure => simp [intOf]; omega
                · have HKM : Hid (k = min each (n - i)) := by unfold Hid; omega
                  clear hjk
                  have hk16 : k ≤ 16 := by omega
                  obtain ⟨L, hL⟩ : ∃ L, L = gL n each q ++ [n + q] := ⟨_, rfl⟩
                  have hgl : List.range' i k = gL n each q := by unfold gL; rw [← HIQ.out, HKM.out]
                  have hLk : L.length = k + 1 := by rw [hL, ← hgl]; simp
                  have HLV : Hid (toV (List.range' i k) ++ [.int .i64 ((n : Int) + (q : Int))] = toV L) := by unfold Hid; rw [hL, hgl]; simp [toV]
                  have HLk := hide hLk
                  have HLE := hide hL
                  have HLT : Hid (∀ r ∈ L, r < len) := fun r hr => HGK.out.lt r (by rw [← hL]; exact hr)
                  clear hL hLk hgl
                  have KZ := hide (fun W => zero_any (g 0).size W (by omega))
                  have HC0 : Hid (∀ W, Below wr.heap.size wr W → W.cell? ⟨b, o, none⟩ = some (.string (g 0))) := fun W hW => by
                    have h9 := cell_below (below_two (below_two HBr.out HB2.out) hW) (HB.out.cells 0 hl0)
                    simpa using h9
                  go_wp2_with (at_builtin; refine wpList_append_own _ rfl _ _ 47 rfl wg.heap.size 3 j0 (.int .i64 0) 1 8 Tryd.underlying47 HJ.out HY0.out HY1.out HY2.out rfl (by decide) _ _ _ rfl (HOF.out.alloc _) ⟨wr.heap.size, 0, none⟩ 1 1 [.int .i64 ((n : Int) + (q : Int))] rfl rfl (cell_one_new _ _ _) (by simp [Value.oneCell']) (by unfold maxLen; omega) (by omega) (by simp; omega) ?_; intro v9 w9 hown9 hgrow9 _; obtain ⟨gf, cf, rfl⟩ := ownsRow_pos hown9 (by omega); have HZ9 := hide hown9; have HB9 := hide ((HB2.out.alloc hs2 _).grown hgrow9 (by simp; omega) (fun k hk => (HOF.out.lt k hk).1) : Below wg.heap.size wg w9); have hc0 : w9.cell? ⟨b, o, none⟩ = some (.string (g 0)) := (by have h9 := cell_below (below_two HBr.out HB9.out) (HB.out.cells 0 hl0); simpa using h9); clear hown9 hgrow9)
                  refine (KZ.out _).mono ?_
                  rintro e w10 ⟨rfl, hw10⟩
                  subst hw10
                  have HSN := hide (sumL_nil g)
                  have HOC : Hid (∀ t r, L[t]? = some r → w9.cell? ⟨gf, t, none⟩ = some (.int .i64 (r : Nat))) := fun t r hr => by
                    have ht : t < L.length := (List.getElem?_eq_some_iff.1 hr).1
                    have h9 := HZ9.out.cellAt t (by have := HLk.out; omega)
                    rw [HLV.out] at h9
                    rw [h9]
                    unfold toV
                    rw [List.getElem?_map, hr]; rfl
                  have HBW9 := hide (below_two HBr.out HB9.out)
                  have HR9 := hide (own_under' HR.out HB9.out)
                  clear hc0
                  go_wp2_with fail
                  go_loopw [14, 15, 16, 17] (fun s14 s15 s16 s17 wq => ∃ (t c : Nat) (d : Int) (S : ByteArray), t ≤ k + 1 ∧ c ≤ t ∧ c = ((L.take t).filter lk).length ∧ d = lastI ((L.take t).filter lk) ∧ S = sumL g ((L.take t).filter fun r => !lk r) ∧ s14 = .string S ∧ s15 = .int .i64 d ∧ s16 = .int .i64 c ∧ s17 = .int .i64 t ∧ Below w9.heap.size w9 wq) (fun _ _ _ s17 _ => k + 1 - (intOf s17).toNat)
                  case atStart => exact ⟨0, 0, -1, _, Nat.zero_le _, Nat.le_refl _, rfl, rfl, HSN.out.symm, rfl, rfl, rfl, rfl, Below.refl _ _⟩
                  case round =>
                    obtain ⟨t, c, d, S, ht, hct, hc, hd, hS, rfl, rfl, rfl, rfl, hb3⟩ := hrel
                    have HTC := hide hc
                    have HTD := hide hd
                    have HTS := hide hS
                    have HB3 := hide hb3
                    have hSz : S.size = (g 0).size := by rw [hS, sumL_size]
                    have hs3 : w9.heap.size ≤ wr.heap.size := hb3.size
                    clear hc hd hS hb3
                    by_cases hlt4 : t < k + 1
                    · obtain ⟨r, hr⟩ : ∃ r, L[t]? = some r := ⟨_, List.getElem?_eq_getElem (by have := HLk.out; omega)⟩
                      have hrl : r < len := HLT.out r (List.mem_of_getElem? hr)
                      have hcr := cell_below HB3.out (HOC.out t r hr)
                      have hclk := cell_below (below_two HBW9.out HB3.out) (HL.out r hrl)
                      have hcg := cell_below (below_two HBW9.out HB3.out) (HB.out.cells r hrl)
                      have HLR := hide hr
                      clear hr
                      cases hkr : lk r with
                      | true =>
                        have HKR := hide hkr
                        rw [hkr] at hclk
                        clear hkr hcg
                        go_wp2
                        go_roundw
                        case rel => exact ⟨t + 1, c + 1, (r : Nat), S, by omega, by omega, by rw [take_yes HLR.out HKR.out, List.length_append, ← HTC.out]; rfl, by rw [take_yes HLR.out HKR.out, lastI_snoc], by rw [HTS.out, take_no HLR.out (by simp [HKR.out])], rfl, rfl, by go_num, by go_num, HB3.out⟩
                        case measure => simp [intOf]; omega
                      | false =>
                        have HKR := hide hkr
                        rw [hkr] at hclk
                        clear hkr
                        have KX := hide (rxor_ok S (g r) wr (by omega) (by rw [hSz]; exact HS.out r hrl))
                        go_wp2_with fail
                        refine (KX.out).mono ?_
                        rintro e w11 ⟨rfl, hb11⟩
                        have HB11 := hide (below_two HB3.out hb11)
                        clear hb11
                        go_wp2
                        go_roundw
                        case rel => exact ⟨t + 1, c, d, xorB S (g r), by omega, by omega, by rw [take_no HLR.out HKR.out]; exact HTC.out, by rw [take_no HLR.out HKR.out]; exact HTD.out, by rw [HTS.out, sumL_snoc, ← take_yes HLR.out (by simp [HKR.out])], rfl, rfl, rfl, by go_num, HB11.out⟩
                        case measure => simp [intOf]; omega
                    · obtain rfl : t = k + 1 := by omega
                      have htk : L.take (k + 1) = L := List.take_of_length_le (by rw [HLk.out]; exact Nat.le_refl _)
                      have hTC : c = (mGone lk (gL n each q) (n + q)).length := by rw [HTC.out, htk, HLE.out]; rfl
                      have hTD : d = lastI (mGone lk (gL n each q) (n + q)) := by rw [HTD.out, htk, HLE.out]; rfl
                      have hTS : S = sumL g ((gL n each q ++ [n + q]).filter fun r => !lk r) := by rw [HTS.out, htk, HLE.out]
                      have hcW := cell_below (below_two HBW9.out HB3.out) (HB.out.cells 0 hl0)
                      simp only [Nat.add_zero] at hcW
                      have HRW := hide (own_under' HR9.out HB3.out)
                      have HBWW := hide (below_two HBW9.out HB3.out)
                      have htI : ¬ ((k + 1 : Nat) : Int) < (k : Int) + 1 := by omega
                      clear htk HTC HTD HTS hlt4
                      rcases hgo9 : mGone lk (gL n each q) (n + q) with _ | ⟨x, _ | ⟨y, rest⟩⟩
                      · rw [hgo9] at hTC hTD
                        have hTC0 : c = 0 := hTC
                        have hTD0 : d = -1 := hTD
                        subst hTC0 hTD0
                        have HFL := hide (flt_none (HS.out (n + q) hqn) HGK.out.nodup hgo9 (g := g))
                        obtain ⟨hp1, _, _⟩ := rest_none HGK.out.nodup hgo9
                        have HP1 := hide hp1
                        rw [← hTS] at HFL
                        clear hTC hTD hgo9 hp1
                        by_cases hS0 : S = zerosB (g 0).size
                        · have q8 : (S.toList == (zerosB (g 0).size).toList) = true := by rw [hS0]; simp
                          have HF0 : Hid (hFlt g lk n each q = 0) := by unfold Hid hFlt; rw [HFL.out, if_pos hS0]
                          clear hS0 hTS
                          go_wp2_with fail
                          refine (KZ.out _).mono ?_
                          rintro e w12 ⟨rfl, hw12⟩
                          subst hw12
                          go_wp2
                          go_roundw
                          case rel =>
                            refine ⟨q + 1, by go_num, HQ1.out, fun p hp => ?_, ?_, HBWW.out⟩
                            · by_cases e9 : p = q
                              · rw [e9]; exact HF0.out
                              · exact HGD.out p (by omega)
                            · rw [strV_congr (g := healF g lk n each q) (fun j hj => (healF_same HP1.out hj).symm)]
                              exact HRW.out
                          case measure => simp [intOf]; have := HQ1.out; omega
                        · have q8 : (S.toList == (zerosB (g 0).size).toList) = false := by
                            rw [beq_eq_false_iff_ne, ByteArray.toList_eq, ByteArray.toList_eq]
                            exact fun e => hS0 (bytes_of_listG e)
                          have HF0 : Hid (hFlt g lk n each q = 7) := by unfold Hid hFlt; rw [HFL.out, if_neg hS0]
                          clear hS0 hTS
                          go_wp2_with fail
                          refine (KZ.out _).mono ?_
                          rintro e w12 ⟨rfl, hw12⟩
                          subst hw12
                          go_wp2
                          go_ret2
                          exact Or.inl ⟨n, hlt, HNQ.out, Or.inr ⟨q, HQ1.out, by rw [HF0.out]; decide, HGD.out, by rw [HF0.out]; rfl, HBWW.out⟩⟩
                      · rw [hgo9] at hTC hTD
                        have hTC0 : c = 1 := hTC
                        have hTD0 : d = (x : Nat) := hTD
                        subst hTC0 hTD0
                        obtain ⟨hp1, hp2, hp3, hp4⟩ := rest_one (g := g) hgo9
                        have hTS2 : S = mDat g lk (gL n each q) (n + q) := by rw [hTS, hp2]; rfl
                        have HF0 : Hid (hFlt g lk n each q = 0) := hp4
                        have hx9 : x < n ∨ x = n + q := by
                          rcases List.mem_append.1 hp3 with h | h
                          · exact Or.inl (gL_lt h)
                          · simp at h; exact Or.inr h
                        have HP1 := hide hp1
                        have HTS2 := hide hTS2
                        clear hTC hTD hgo9 hp1 hp2 hp3 hp4 hTS hTS2
                        by_cases hxn : x < n
                        · have hxI : (x : Int) < (n : Int) := by omega
                          have hcx := HRW.out.cellAt x (by omega)
                          rw [strV_at _ _ _ hxn] at hcx
                          have hfx := HRW.out.frozenAt x
                          clear hx9
                          go_wp2
                          go_roundw
                          case rel =>
                            refine ⟨q + 1, by go_num, HQ1.out, fun p hp => ?_, ?_, HBWW.out.setCell hgo _⟩
                            · by_cases e9 : p = q
                              · rw [e9]; exact HF0.out
                              · exact HGD.out p (by omega)
                            · have h9 := (HRW.out.stored x (.string S)).1
                              rw [strV_set _ _ _ _ hxn, HTS2.out, strV_congr (g := healF g lk n each (q + 1)) (fun j hj => healF_step HP1.out.symm (by omega) j)] at h9
                              rw [HTS2.out]
                              exact h9
                          case measure => simp [intOf]; have := HQ1.out; omega
                        · have hxI : ¬ (x : Int) < (n : Int) := by omega
                          have HXE : Hid (x = n + q) := by unfold Hid; omega
                          clear hx9
                          go_wp2
                          go_roundw
                          case rel =>
                            refine ⟨q + 1, by go_num, HQ1.out, fun p hp => ?_, ?_, HBWW.out⟩
                            · by_cases e9 : p = q
                              · rw [e9]; exact HF0.out
                              · exact HGD.out p (by omega)
                            · rw [strV_congr (g := healF g lk n each q) (fun j hj => (healF_same (HP1.out.trans HXE.out) hj).symm)]
                              exact HRW.out
                          case measure => simp [intOf]; have := HQ1.out; omega
                      · have HF0 : Hid (hFlt g lk n each q = 8) := by unfold Hid hFlt; exact flt_many (by rw [hgo9]; simp)
                        have hc1 : 1 < c := by rw [hTC, hgo9]; simp
                        clear hTC hTD hTS hgo9
                        go_wp2
                        go_ret2
                        exact Or.inl ⟨n, hlt, HNQ.out, Or.inr ⟨q, HQ1.out, by rw [HF0.out]; decide, HGD.out, by rw [HF0.out]; rfl, HBWW.out⟩⟩
              · have HKM : Hid (k = min each (n - i)) := by unfold Hid; omega
                have h1I : ¬ (j : Int) < (i : Int) + (each : Int) := by omega
                clear hjk
                have hk16 : k ≤ 16 := by omega
                obtain ⟨L, hL⟩ : ∃ L, L = gL n each q ++ [n + q] := ⟨_, rfl⟩
                have hgl : List.range' i k = gL n each q := by unfold gL; rw [← HIQ.out, HKM.out]
                have hLk : L.length = k + 1 := by rw [hL, ← hgl]; simp
                have HLV : Hid (toV (List.range' i k) ++ [.int .i64 ((n : Int) + (q : Int))] = toV L) := by unfold Hid; rw [hL, hgl]; simp [toV]
                have HLk := hide hLk
                have HLE := hide hL
                have HLT : Hid (∀ r ∈ L, r < len) := fun r hr => HGK.out.lt r (by rw [← hL]; exact hr)
                clear hL hLk hgl
                have KZ := hide (fun W => zero_any (g 0).size W (by omega))
                have HC0 : Hid (∀ W, Below wr.heap.size wr W → W.cell? ⟨b, o, none⟩ = some (.string (g 0))) := fun W hW => by
                  have h9 := cell_below (below_two (below_two HBr.out HB2.out) hW) (HB.out.cells 0 hl0)
                  simpa using h9
                go_wp2_with (at_builtin; refine wpList_append_own _ rfl _ _ 47 rfl wg.heap.size 3 j0 (.int .i64 0) 1 8 Tryd.underlying47 HJ.out HY0.out HY1.out HY2.out rfl (by decide) _ _ _ rfl (HOF.out.alloc _) ⟨wr.heap.size, 0, none⟩ 1 1 [.int .i64 ((n : Int) + (q : Int))] rfl rfl (cell_one_new _ _ _) (by simp [Value.oneCell']) (by unfold maxLen; omega) (by omega) (by simp; omega) ?_; intro v9 w9 hown9 hgrow9 _; obtain ⟨gf, cf, rfl⟩ := ownsRow_pos hown9 (by omega); have HZ9 := hide hown9; have HB9 := hide ((HB2.out.alloc hs2 _).grown hgrow9 (by simp; omega) (fun k hk => (HOF.out.lt k hk).1) : Below wg.heap.size wg w9); have hc0 : w9.cell? ⟨b, o, none⟩ = some (.string (g 0)) := (by have h9 := cell_below (below_two HBr.out HB9.out) (HB.out.cells 0 hl0); simpa using h9); clear hown9 hgrow9)
                refine (KZ.out _).mono ?_
                rintro e w10 ⟨rfl, hw10⟩
                subst hw10
                have HSN := hide (sumL_nil g)
                have HOC : Hid (∀ t r, L[t]? = some r → w9.cell? ⟨gf, t, none⟩ = some (.int .i64 (r : Nat))) := fun t r hr => by
                  have ht : t < L.length := (List.getElem?_eq_some_iff.1 hr).1
                  have h9 := HZ9.out.cellAt t (by have := HLk.out; omega)
                  rw [HLV.out] at h9
                  rw [h9]
                  unfold toV
                  rw [List.getElem?_map, hr]; rfl
                have HBW9 := hide (below_two HBr.out HB9.out)
                have HR9 := hide (own_under' HR.out HB9.out)
                clear hc0
                go_wp2_with fail
                go_loopw [14, 15, 16, 17] (fun s14 s15 s16 s17 wq => ∃ (t c : Nat) (d : Int) (S : ByteArray), t ≤ k + 1 ∧ c ≤ t ∧ c = ((L.take t).filter lk).length ∧ d = lastI ((L.take t).filter lk) ∧ S = sumL g ((L.take t).filter fun r => !lk r) ∧ s14 = .string S ∧ s15 = .int .i64 d ∧ s16 = .int .i64 c ∧ s17 = .int .i64 t ∧ Below w9.heap.size w9 wq) (fun _ _ _ s17 _ => k + 1 - (intOf s17).toNat)
                case atStart => exact ⟨0, 0, -1, _, Nat.zero_le _, Nat.le_refl _, rfl, rfl, HSN.out.symm, rfl, rfl, rfl, rfl, Below.refl _ _⟩
                case round =>
                  obtain ⟨t, c, d, S, ht, hct, hc, hd, hS, rfl, rfl, rfl, rfl, hb3⟩ := hrel
                  have HTC := hide hc
                  have HTD := hide hd
                  have HTS := hide hS
                  have HB3 := hide hb3
                  have hSz : S.size = (g 0).size := by rw [hS, sumL_size]
                  have hs3 : w9.heap.size ≤ wr.heap.size := hb3.size
                  clear hc hd hS hb3
                  by_cases hlt4 : t < k + 1
                  · obtain ⟨r, hr⟩ : ∃ r, L[t]? = some r := ⟨_, List.getElem?_eq_getElem (by have := HLk.out; omega)⟩
                    have hrl : r < len := HLT.out r (List.mem_of_getElem? hr)
                    have hcr := cell_below HB3.out (HOC.out t r hr)
                    have hclk := cell_below (below_two HBW9.out HB3.out) (HL.out r hrl)
                    have hcg := cell_below (below_two HBW9.out HB3.out) (HB.out.cells r hrl)
                    have HLR := hide hr
                    clear hr
                    cases hkr : lk r with
                    | true =>
                      have HKR := hide hkr
                      rw [hkr] at hclk
                      clear hkr hcg
                      go_wp2
                      go_roundw
                      case rel => exact ⟨t + 1, c + 1, (r : Nat), S, by omega, by omega, by rw [take_yes HLR.out HKR.out, List.length_append, ← HTC.out]; rfl, by rw [take_yes HLR.out HKR.out, lastI_snoc], by rw [HTS.out, take_no HLR.out (by simp [HKR.out])], rfl, rfl, by go_num, by go_num, HB3.out⟩
                      case measure => simp [intOf]; omega
                    | false =>
                      have HKR := hide hkr
                      rw [hkr] at hclk
                      clear hkr
                      have KX := hide (rxor_ok S (g r) wr (by omega) (by rw [hSz]; exact HS.out r hrl))
                      go_wp2_with fail
                      refine (KX.out).mono ?_
                      rintro e w11 ⟨rfl, hb11⟩
                      have HB11 := hide (below_two HB3.out hb11)
                      clear hb11
                      go_wp2
                      go_roundw
                      case rel => exact ⟨t + 1, c, d, xorB S (g r), by omega, by omega, by rw [take_no HLR.out HKR.out]; exact HTC.out, by rw [take_no HLR.out HKR.out]; exact HTD.out, by rw [HTS.out, sumL_snoc, ← take_yes HLR.out (by simp [HKR.out])], rfl, rfl, rfl, by go_num, HB11.out⟩
                      case measure => simp [intOf]; omega
                  · obtain rfl : t = k + 1 := by omega
                    have htk : L.take (k + 1) = L := List.take_of_length_le (by rw [HLk.out]; exact Nat.le_refl _)
                    have hTC : c = (mGone lk (gL n each q) (n + q)).length := by rw [HTC.out, htk, HLE.out]; rfl
                    have hTD : d = lastI (mGone lk (gL n each q) (n + q)) := by rw [HTD.out, htk, HLE.out]; rfl
                    have hTS : S = sumL g ((gL n each q ++ [n + q]).filter fun r => !lk r) := by rw [HTS.out, htk, HLE.out]
                    have hcW := cell_below (below_two HBW9.out HB3.out) (HB.out.cells 0 hl0)
                    simp only [Nat.add_zero] at hcW
                    have HRW := hide (own_under' HR9.out HB3.out)
                    have HBWW := hide (below_two HBW9.out HB3.out)
                    have htI : ¬ ((k + 1 : Nat) : Int) < (k : Int) + 1 := by omega
                    clear htk HTC HTD HTS hlt4
                    rcases hgo9 : mGone lk (gL n each q) (n + q) with _ | ⟨x, _ | ⟨y, rest⟩⟩
                    · rw [hgo9] at hTC hTD
                      have hTC0 : c = 0 := hTC
                      have hTD0 : d = -1 := hTD
                      subst hTC0 hTD0
                      have HFL := hide (flt_none (HS.out (n + q) hqn) HGK.out.nodup hgo9 (g := g))
                      obtain ⟨hp1, _, _⟩ := rest_none HGK.out.nodup hgo9
                      have HP1 := hide hp1
                      rw [← hTS] at HFL
                      clear hTC hTD hgo9 hp1
                      by_cases hS0 : S = zerosB (g 0).size
                      · have q8 : (S.toList == (zerosB (g 0).size).toList) = true := by rw [hS0]; simp
                        have HF0 : Hid (hFlt g lk n each q = 0) := by unfold Hid hFlt; rw [HFL.out, if_pos hS0]
                        clear hS0 hTS
                        go_wp2_with fail
                        refine (KZ.out _).mono ?_
                        rintro e w12 ⟨rfl, hw12⟩
                        subst hw12
                        go_wp2
                        go_roundw
                        case rel =>
                          refine ⟨q + 1, by go_num, HQ1.out, fun p hp => ?_, ?_, HBWW.out⟩
                          · by_cases e9 : p = q
                            · rw [e9]; exact HF0.out
                            · exact HGD.out p (by omega)
                          · rw [strV_congr (g := healF g lk n each q) (fun j hj => (healF_same HP1.out hj).symm)]
                            exact HRW.out
                        case measure => simp [intOf]; have := HQ1.out; omega
                      · have q8 : (S.toList == (zerosB (g 0).size).toList) = false := by
                          rw [beq_eq_false_iff_ne, ByteArray.toList_eq, ByteArray.toList_eq]
                          exact fun e => hS0 (bytes_of_listG e)
                        have HF0 : Hid (hFlt g lk n each q = 7) := by unfold Hid hFlt; rw [HFL.out, if_neg hS0]
                        clear hS0 hTS
                        go_wp2_with fail
                        refine (KZ.out _).mono ?_
                        rintro e w12 ⟨rfl, hw12⟩
                        subst hw12
                        go_wp2
                        go_ret2
                        exact Or.inl ⟨n, hlt, HNQ.out, Or.inr ⟨q, HQ1.out, by rw [HF0.out]; decide, HGD.out, by rw [HF0.out]; rfl, HBWW.out⟩⟩
                    · rw [hgo9] at hTC hTD
                      have hTC0 : c = 1 := hTC
                      have hTD0 : d = (x : Nat) := hTD
                      subst hTC0 hTD0
                      obtain ⟨hp1, hp2, hp3, hp4⟩ := rest_one (g := g) hgo9
                      have hTS2 : S = mDat g lk (gL n each q) (n + q) := by rw [hTS, hp2]; rfl
                      have HF0 : Hid (hFlt g lk n each q = 0) := hp4
                      have hx9 : x < n ∨ x = n + q := by
                        rcases List.mem_append.1 hp3 with h | h
                        · exact Or.inl (gL_lt h)
                        · simp at h; exact Or.inr h
                      have HP1 := hide hp1
                      have HTS2 := hide hTS2
                      clear hTC hTD hgo9 hp1 hp2 hp3 hp4 hTS hTS2
                      by_cases hxn : x < n
                      · have hxI : (x : Int) < (n : Int) := by omega
                        have hcx := HRW.out.cellAt x (by omega)
                        rw [strV_at _ _ _ hxn] at hcx
                        have hfx := HRW.out.frozenAt x
                        clear hx9
                        go_wp2
                        go_roundw
                        case rel =>
                          refine ⟨q + 1, by go_num, HQ1.out, fun p hp => ?_, ?_, HBWW.out.setCell hgo _⟩
                          · by_cases e9 : p = q
                            · rw [e9]; exact HF0.out
                            · exact HGD.out p (by omega)
                          · have h9 := (HRW.out.stored x (.string S)).1
                            rw [strV_set _ _ _ _ hxn, HTS2.out, strV_congr (g := healF g lk n each (q + 1)) (fun j hj => healF_step HP1.out.symm (by omega) j)] at h9
                            rw [HTS2.out]
                            exact h9
                        case measure => simp [intOf]; have := HQ1.out; omega
                      · have hxI : ¬ (x : Int) < (n : Int) := by omega
                        have HXE : Hid (x = n + q) := by unfold Hid; omega
                        clear hx9
                        go_wp2
                        go_roundw
                        case rel =>
                          refine ⟨q + 1, by go_num, HQ1.out, fun p hp => ?_, ?_, HBWW.out⟩
                          · by_cases e9 : p = q
                            · rw [e9]; exact HF0.out
                            · exact HGD.out p (by omega)
                          · rw [strV_congr (g := healF g lk n each q) (fun j hj => (healF_same (HP1.out.trans HXE.out) hj).symm)]
                            exact HRW.out
                        case measure => simp [intOf]; have := HQ1.out; omega
                    · have HF0 : Hid (hFlt g lk n each q = 8) := by unfold Hid hFlt; exact flt_many (by rw [hgo9]; simp)
                      have hc1 : 1 < c := by rw [hTC, hgo9]; simp
                      clear hTC hTD hTS hgo9
                      go_wp2
                      go_ret2
                      exact Or.inl ⟨n, hlt, HNQ.out, Or.inr ⟨q, HQ1.out, by rw [HF0.out]; decide, HGD.out, by rw [HF0.out]; rfl, HBWW.out⟩⟩
          · have HQ1 : Hid (q = gN n each) := by
              have h1 : ¬ q < gN n each := fun h => hqlt (by rw [HIQ.out]; exact (HGM.out q).1 h)
              have := HQG.out
              unfold Hid
              omega
            have hqiI : ¬ (i : Int) < (n : Int) := by omega
            go_wp2
            go_ret2
            refine Or.inl ⟨n, hlt, HNQ.out, Or.inl ⟨_, rfl, ?_, ?_, HBr.out⟩⟩
            · rw [← HQ1.out]; exact HGD.out
            · rw [← HQ1.out]; exact HR.out
      · have hqI : ¬ (n : Int) + (gN n each : Nat) = (len : Int) := by omega
        have q4 : ((n : Int) + (gN n each : Nat) == (len : Int)) = false := by rw [beq_eq_false_iff_ne]; exact hqI
        have q3 : (((n : Int) + (gN n each : Nat)) != (len : Int)) = true := by simp only [bne, q4]; rfl
        have HNQ := hide hq
        clear hq hqI
        generalize hGI : ((gN n each : Nat) : Int) = GI at *
        have hGIb : 0 ≤ GI ∧ GI ≤ 16 := by omega
        obtain ⟨hGIb1, hGIb2⟩ := hGIb
        clear hGI
        go_wp2_with fail
        refine (KN.out).mono ?_
        rintro e w2 ⟨rfl, rfl⟩
        go_wp2
        go_roundw
        case rel =>
          refine ⟨n + 1, by omega, by omega, by go_num, by simp, fun p hp => ?_⟩
          by_cases e9 : p = n
          · rw [e9]; exact HNQ.out
          · exact HNO.out p (by omega)
        case measure => simp [intOf]; omega
    · obtain rfl : n = len := by omega
      go_wp2
      go_ret2
      exact Or.inr ⟨HNO.out, rfl, HB1.out⟩
end Go.Proofs.YtmmlcomfkikomaaDoor
