/-
  Lemmas for the law above, joined into one text (RSet, RPeel, RSt, RQN, REN). No statement is proved here.
-/
import Derived.Test.YtjgifjkdgoijmaaGreatDoorYG6
import Derived.Test.YtjgifjkdgoijmaaGreatDoorYG2
import Derived.Laws.AppendOwnNone
import Derived.Test.YtjgifjkdgoijmaaGreatDoorYG4
import Derived.Deep.RegionHeld3
import Derived.Deep.AppendLies
import Derived.Deep.RegionLaw
import Derived.Deep.DrawnRows
import Derived.Test.YtjgifjkdgoijmaaGreatDoorYG5
namespace Go.Proofs.YtjgifjkdgoijmaaGreatDoor
open Go.RowKit Go.Maps
set_option linter.unusedVariables false
set_option maxRecDepth 100000

theorem rnxt (n : Int) (w : World) (h : Num n) : Calls Tryz.prog 83 #[.int .i64 n] w fun e w' => e = .returned (.int .i64 (nxt n)) ∧ w = w' := by
  obtain ⟨h1, h2⟩ := h
  go_enter Tryz.func83, Tryz.ntmps83
  go_wp2
  go_ret
  exact ⟨ret_int (by unfold nxt; first | rfl | omega), rfl⟩

set_option maxHeartbeats 1000000 in
theorem rput_nil (r : Nat) (w : World) (hr : r ≤ 1000) :
    Calls Tryz.prog 82 #[.slice none 0 0, .int .i64 r] w fun e w' => ∃ v, e = .returned v ∧ Lst w' v [r] ∧ Below w.heap.size w w' ∧ ∀ i, v.ownBlock = some i → w.heap.size ≤ i := by
  obtain ⟨i0, hi, hz0, hz1, hz2⟩ := info_parts Tryz.infoInt
  go_enter Tryz.func82, Tryz.ntmps82
  go_wp2
  go_loop [5, 6] (fun v i => v = .slice none 0 0 ∧ i = .int .i64 0) (fun _ _ => 0)
  case atStart => exact ⟨rfl, rfl⟩
  case round =>
    obtain ⟨rfl, rfl⟩ := hrel
    go_wp2_with (first
      | (at_builtin; refine wpList_append_own _ rfl _ _ 22 rfl w.heap.size 3 i0 (.int .i64 0) 1 8 Tryz.underlying22 hi hz0 hz1 hz2 rfl (by decide) _ _ _ rfl ((World.ownsRow_nil w w.heap.size 3 1).alloc _) ⟨w.heap.size, 0, none⟩ 1 1 [.int .i64 (r : Nat)] rfl rfl (cell_one_new _ _ _) (fun x hx => by simp at hx; subst hx; rfl) (by unfold maxLen; omega) (by omega) (by simp) ?_; intro v' w2 hown' hgrow2 hnil2)
      | (at_builtin; refine wpList_append_own_none rfl _ _ 22 rfl w.heap.size 3 i0 1 Tryz.underlying22 hi _ _ _ rfl hown' rfl ?_)
      | go_in)
    go_ret
    exact ⟨v', rfl, own_lst (l := [r]) hown' (by simp), ((Below.refl _ _).alloc (Nat.le_refl _) _).grown hgrow2 (by simp) (fun j hj => by cases hj), fun i hi => (hown'.lt i hi).1⟩

set_option maxHeartbeats 2000000 in
theorem rput_ok (g cap : Nat) (l A B : List Nat) (r : Nat) (w : World) (hl : l = A ++ B) (h0 : 0 < l.length) (h16 : l.length ≤ 16) (hc1 : l.length ≤ cap) (hc2 : cap ≤ maxLen) (hr : r ≤ 1000)
    (hcell : ∀ i, i < l.length → w.cell? ⟨g, 0 + i, none⟩ = some (.int .i64 (l.getD i 0 : Nat))) (hA : ∀ a ∈ A, a < r) (hB : ∀ b ∈ B, r < b) :
    Calls Tryz.prog 82 #[.slice (some ⟨g, 0, none⟩) l.length cap, .int .i64 r] w fun e w' => ∃ v, e = .returned v ∧ Lst w' v (A ++ r :: B) ∧ Below w.heap.size w w' ∧ ∀ i, v.ownBlock = some i → w.heap.size ≤ i := by
  unfold maxLen at hc2
  have HC := hide hcell
  have hlen : l.length = A.length + B.length := by rw [hl, List.length_append]
  have HLA : Hid (∀ j, j < A.length → l.getD j 0 < r ∧ A.getD j 0 = l.getD j 0) := fun j hj => by
    have e1 : A.getD j 0 = A[j] := by simp [List.getD, hj]
    have e2 : l.getD j 0 = A[j] := by rw [hl]; simp [List.getD, hj, List.getElem?_append_left]
    exact ⟨by rw [e2]; exact hA _ (List.getElem_mem hj), by rw [e1, e2]⟩
  have HLB : Hid (A.length < l.length → r < l.getD A.length 0) := fun hj => by
    have hb : 0 < B.length := by omega
    have e2 : l.getD A.length 0 = B[0] := by rw [hl]; simp [List.getD, hb]
    rw [e2]; exact hB _ (List.getElem_mem hb)
  have HD : Hid (l.drop A.length = B) := by unfold Hid; rw [hl]; simp
  obtain ⟨i0, hi, hz0, hz1, hz2⟩ := info_parts Tryz.infoInt
  have Hi := hide hi
  have Hz0 := hide hz0
  have Hz1 := hide hz1
  have Hz2 := hide hz2
  clear hcell hl hA hB hi hz0 hz1 hz2
  generalize hn : l.length = n at *
  have HN := hide hn
  have HLN := hide hlen
  have hAn : A.length ≤ n := by omega
  clear hn hlen
  go_enter Tryz.func82, Tryz.ntmps82
  go_wp2
  go_loopw [5, 6] (fun v i wr => ∃ j : Nat, j ≤ A.length ∧ i = .int .i64 j ∧ wr.ownsRow w.heap.size 3 1 v j (toV (A.take j)) ∧ Below w.heap.size w wr) (fun _ i _ => n - (intOf i).toNat)
  case atStart => exact ⟨0, Nat.zero_le _, rfl, World.ownsRow_nil _ _ _ _, Below.refl _ _⟩
  case round =>
    obtain ⟨j, hj, rfl, hA, hb⟩ := hrel
    have HA := hide hA
    have hbs := hb.size
    clear hA
    by_cases hlt : j < A.length
    · have hcj := cell_below hb (HC.out j (by omega))
      have hjr := (HLA.out j hlt).1
      have HE := hide (HLA.out j hlt).2
      have hjn : j < n := by omega
      have hjn' : (j : Int) < (n : Int) := by omega
      have HT := hide (take_snocR A j hlt)
      have hjr' : ((l.getD j 0 : Nat) : Int) < (r : Int) := by omega
      simp only [Nat.zero_add] at hcj
      generalize l.getD j 0 = x at *
      go_wp2_with (first | (at_builtin; refine wpList_append_own _ rfl _ _ 22 rfl w.heap.size 3 i0 (.int .i64 0) 1 8 Tryz.underlying22 Hi.out Hz0.out Hz1.out Hz2.out rfl (by decide) _ _ _ rfl (HA.out.alloc _) ⟨wr.heap.size, 0, none⟩ 1 1 [.int .i64 (x : Nat)] rfl rfl (cell_one_new _ _ _) (fun x hx => by simp at hx; subst hx; rfl) (by unfold maxLen; omega) (by omega) (by simp; omega) ?_; intro v2 w2 hown2 hgrow2 hnil2; have HA2 := hide hown2; clear hown2 hnil2) | go_in)
      go_roundw
      case rel =>
        have R : j + 1 ≤ A.length ∧ Value.int .i64 ((j : Int) + 1) = .int .i64 ((j + 1 : Nat) : Int) ∧ w2.ownsRow w.heap.size 3 1 v2 (j + 1) (toV (A.take (j + 1))) ∧ Below w.heap.size w w2 :=
          ⟨by omega, by simp, by rw [HT.out, HE.out]; exact HA2.out, (hb.alloc hbs _).grown hgrow2 (by simp; omega) (fun q hq => (HA.out.lt q hq).1)⟩
        first
          | exact ⟨j + 1, R⟩
          | ((repeat apply Exists.intro); exact ⟨⟨j + 1, R⟩, rfl⟩)
      case measure => simp [intOf]; omega
    · obtain rfl : j = A.length := by omega
      rw [List.take_length] at HA
      generalize hAl : A.length = j at *
      have HAL := hide hAl
      clear hAl
      by_cases hjn : j < n
      · have hcj := cell_below hb (HC.out j hjn)
        have hjr := HLB.out hjn
        have hjn' : (j : Int) < (n : Int) := by omega
        have hjc : ¬ cap = j := by omega
        have hjr' : ¬ ((l.getD j 0 : Nat) : Int) < (r : Int) := by omega
        simp only [Nat.zero_add] at hcj
        have HNW : Hid (∀ w1, Below w.heap.size w w1 → ∀ q u, (toV (l.drop j))[q]? = some u → w1.cell? ((⟨g, j, none⟩ : Addr).add q) = some u) := fun w1 hb1 q u hu => by
          unfold toV at hu
          rw [List.getElem?_map, List.getElem?_drop] at hu
          obtain ⟨y, hy, rfl⟩ := Option.map_eq_some_iff.1 hu
          have hjq : j + q < n := by have := (List.getElem?_eq_some_iff.1 hy).1; have := HN.out; omega
          have h := cell_below hb1 (HC.out (j + q) hjq)
          rw [Addr.add_lit]
          rw [Nat.zero_add] at h
          rw [h]; simp [List.getD, hy]
        have HLD : Hid ((toV (l.drop j)).length = (n - j) * 1) := by unfold Hid toV; rw [List.length_map, List.length_drop, HN.out, Nat.mul_one]
        generalize l.getD j 0 = x at *
        go_wp2_with (first | (at_builtin; refine wpList_append_own _ rfl _ _ 22 rfl w.heap.size 3 i0 (.int .i64 0) 1 8 Tryz.underlying22 Hi.out Hz0.out Hz1.out Hz2.out rfl (by decide) _ _ _ rfl (HA.out.alloc _) ⟨wr.heap.size, 0, none⟩ 1 1 [.int .i64 (r : Nat)] rfl rfl (cell_one_new _ _ _) (fun x hx => by simp at hx; subst hx; rfl) (by unfold maxLen; omega) (by omega) (by simp; omega) ?_; intro v2 w2 hown2 hgrow2 hnil2; have HA2 := hide hown2; have HG2 := hide ((hb.alloc hbs (.cells #[.int .i64 (r : Nat)] 3)).grown hgrow2 (by simp; omega) (fun q hq => (HA.out.lt q hq).1)); clear hown2 hnil2 hgrow2) | (at_builtin; refine wpList_append_own _ rfl _ _ 22 rfl w.heap.size 3 i0 (.int .i64 0) 1 8 Tryz.underlying22 Hi.out Hz0.out Hz1.out Hz2.out rfl (by decide) _ _ _ rfl HA2.out ⟨g, j, none⟩ (n - j) (cap - j) (toV (l.drop j)) rfl HLD.out (HNW.out _ HG2.out) (toV_one _) (by unfold maxLen; omega) (by omega) HG2.out.size ?_; intro v3 w3 hown3 hgrow3 hnil3) | go_in)
        go_ret
        refine ⟨v3, rfl, own_lst (B := w.heap.size) ?_ (by rw [List.length_append, List.length_cons]; omega), HG2.out.grown hgrow3 HG2.out.size (fun q hq => (HA2.out.lt q hq).1), fun i hi => (hown3.lt i hi).1⟩
        have e1 : (A ++ r :: B).length = j + 1 + (n - j) := by have := HLN.out; have := HAL.out; simp; omega
        have e2 : ((A ++ r :: B).map fun r : Nat => Value.int .i64 (r : Nat)) = toV A ++ [.int .i64 (r : Nat)] ++ toV B := by simp [toV]
        rw [e1, e2, ← HD.out]
        exact hown3
      · obtain rfl : j = n := by omega
        have hB0 : B = [] := List.eq_nil_of_length_eq_zero (by have := HLN.out; omega)
        have HB0 := hide hB0
        clear hB0
        have hjj : ¬ (j : Int) < (j : Int) := by omega
        by_cases hjc : cap = j
        · subst hjc
          go_wp2_with (first | (at_builtin; refine wpList_append_own _ rfl _ _ 22 rfl w.heap.size 3 i0 (.int .i64 0) 1 8 Tryz.underlying22 Hi.out Hz0.out Hz1.out Hz2.out rfl (by decide) _ _ _ rfl (HA.out.alloc _) ⟨wr.heap.size, 0, none⟩ 1 1 [.int .i64 (r : Nat)] rfl rfl (cell_one_new _ _ _) (fun x hx => by simp at hx; subst hx; rfl) (by unfold maxLen; omega) (by omega) (by simp; omega) ?_; intro v2 w2 hown2 hgrow2 hnil2; have HA2 := hide hown2; have HG2 := hide ((hb.alloc hbs (.cells #[.int .i64 (r : Nat)] 3)).grown hgrow2 (by simp; omega) (fun q hq => (HA.out.lt q hq).1)); clear hown2 hnil2 hgrow2) | (at_builtin; refine wpList_append_own _ rfl _ _ 22 rfl w.heap.size 3 i0 (.int .i64 0) 1 8 Tryz.underlying22 Hi.out Hz0.out Hz1.out Hz2.out rfl (by decide) _ _ _ rfl HA2.out ⟨g, 0, none⟩ 0 0 [] rfl rfl (fun q u hu => by simp at hu) (fun x hx => by cases hx) (by unfold maxLen; omega) (by omega) HG2.out.size ?_; intro v3 w3 hown3 hgrow3 hnil3) | go_in)
          go_ret
          refine ⟨v3, rfl, own_lst (B := w.heap.size) ?_ (by rw [List.length_append, List.length_cons]; omega), HG2.out.grown hgrow3 HG2.out.size (fun q hq => (HA2.out.lt q hq).1), fun i hi => (hown3.lt i hi).1⟩
          have e1 : (A ++ r :: B).length = cap + 1 + 0 := by have := HLN.out; have := HAL.out; simp; omega
          have e2 : ((A ++ r :: B).map fun r : Nat => Value.int .i64 (r : Nat)) = toV A ++ [.int .i64 (r : Nat)] ++ toV B := by simp [toV]
          rw [e1, e2, HB0.out]
          exact hown3
        · go_wp2_with (first | (at_builtin; refine wpList_append_own _ rfl _ _ 22 rfl w.heap.size 3 i0 (.int .i64 0) 1 8 Tryz.underlying22 Hi.out Hz0.out Hz1.out Hz2.out rfl (by decide) _ _ _ rfl (HA.out.alloc _) ⟨wr.heap.size, 0, none⟩ 1 1 [.int .i64 (r : Nat)] rfl rfl (cell_one_new _ _ _) (fun x hx => by simp at hx; subst hx; rfl) (by unfold maxLen; omega) (by omega) (by simp; omega) ?_; intro v2 w2 hown2 hgrow2 hnil2; have HA2 := hide hown2; have HG2 := hide ((hb.alloc hbs (.cells #[.int .i64 (r : Nat)] 3)).grown hgrow2 (by simp; omega) (fun q hq => (HA.out.lt q hq).1)); clear hown2 hnil2 hgrow2) | (at_builtin; refine wpList_append_own _ rfl _ _ 22 rfl w.heap.size 3 i0 (.int .i64 0) 1 8 Tryz.underlying22 Hi.out Hz0.out Hz1.out Hz2.out rfl (by decide) _ _ _ rfl HA2.out ⟨g, j, none⟩ 0 (cap - j) [] rfl rfl (fun q u hu => by simp at hu) (fun x hx => by cases hx) (by unfold maxLen; omega) (by omega) HG2.out.size ?_; intro v3 w3 hown3 hgrow3 hnil3) | go_in)
          go_ret
          refine ⟨v3, rfl, own_lst (B := w.heap.size) ?_ (by rw [List.length_append, List.length_cons]; omega), HG2.out.grown hgrow3 HG2.out.size (fun q hq => (HA2.out.lt q hq).1), fun i hi => (hown3.lt i hi).1⟩
          have e1 : (A ++ r :: B).length = j + 1 + 0 := by have := HLN.out; have := HAL.out; simp; omega
          have e2 : ((A ++ r :: B).map fun r : Nat => Value.int .i64 (r : Nat)) = toV A ++ [.int .i64 (r : Nat)] ++ toV B := by simp [toV]
          rw [e1, e2, HB0.out]
          exact hown3

theorem rin_nil (v : Int) (w : World) : Calls Tryz.prog 11 #[.slice none 0 0, .int .i64 v] w fun e w' => e = .returned (.bool false) ∧ w = w' := by
  go_enter Tryz.func11, Tryz.ntmps11
  go_wp2
  go_loop [5] (fun i => i = .int .i64 0) (fun _ => 0)
  case atStart => rfl
  case round =>
    obtain rfl := hrel
    go_wp2
    go_ret
    exact ⟨rfl, rfl⟩

set_option maxHeartbeats 2000000 in
theorem rset_ok (k seed : Nat) (w : World) (hk : 1 ≤ k) (hk2 : k ≤ 16) (h1 : 1 ≤ seed) (h2 : seed ≤ 10000) :
    Calls Tryz.prog 49 #[.int .i64 k, .int .i64 seed] w fun e w' => ∃ v, e = .returned v ∧ Lst w' v (setL k seed) ∧ Below w.heap.size w w' := by
  by_cases hle : seed ≤ k
  · have HL := hide (setL_one hle)
    have hle' : (seed : Int) ≤ (k : Int) := by omega
    clear hle
    go_enter Tryz.func49, Tryz.ntmps49
    go_wp2
    go_ret
    refine ⟨_, rfl, ?_, (Below.refl _ _).alloc (Nat.le_refl _) _⟩
    rw [HL.out]
    refine ⟨_, _, rfl, Nat.le_refl _, by unfold maxLen; simp, fun i hi => ?_⟩
    obtain rfl : i = 0 := by simpa using hi
    have h9 := cell_one_new w (.int .i64 ((seed : Int) - 1)) 3 0 _ rfl
    have e9 : (((seed - 1 : Nat)) : Int) = (seed : Int) - 1 := by omega
    simp only [Addr.add, List.getD_cons_zero, e9] at h9 ⊢
    exact h9
  · have hle' : ¬ (seed : Int) ≤ (k : Int) := by omega
    have hx : Num (seed : Int) := ⟨by omega, by omega⟩
    have N := hide (rnxt seed w hx)
    obtain ⟨n, hn, hn2⟩ : ∃ n : Nat, nxt seed % 1000 = (n : Int) ∧ n < 1000 := ⟨(nxt seed % 1000).toNat, by omega, by omega⟩
    have HD : Hid (setD k seed = deg k n) := by unfold Hid setD; rw [hn, Int.toNat_natCast]
    have D : Hid (Calls Tryz.prog 84 #[.int .i64 k, .int .i64 (nxt seed % 1000)] w fun e w' => e = .returned (.int .i64 (deg k n)) ∧ w = w') := by
      rw [hn]; exact rdeg k n w hk hk2 hn2
    have hd1 := deg_le k n hk
    have hd0 := deg_ge k n
    have HS : Hid (∀ i, Stop k (nxt seed) (setD k seed) i → setL k seed = setAt k (nxt seed) i) := fun i hs => setL_stop hle hs
    have HX := hide hx.nxt
    obtain ⟨T, hT⟩ := setAt_all (k := k) hx.nxt hk (by omega)
    have HT := hide hT
    obtain ⟨hy1, hy2⟩ := hx.nxt
    clear hn hx hle hT
    generalize nxt (seed : Int) = y at *
    generalize deg k n = d at *
    go_enter Tryz.func49, Tryz.ntmps49
    go_wp2_with fail
    refine (N.out).mono ?_
    rintro e w1 ⟨rfl, rfl⟩
    go_wp2_with fail
    refine (D.out).mono ?_
    rintro e w1 ⟨rfl, rfl⟩
    clear N D
    go_wp2_with fail
    go_loopg [5, 7] T (fun g x v wr => ∃ (i : Nat) (a : Option Addr) (cap : Nat), x = .int .i64 (rowV y i) ∧ v = .slice a (setAt k y i).length cap ∧ i + g = T ∧ (∀ j, j < i → (setAt k y j).length < d) ∧ ((setAt k y i = [] ∧ v = .slice none 0 0) ∨ (0 < (setAt k y i).length ∧ Lst wr v (setAt k y i))) ∧ Below w.heap.size w wr)
    case atStart =>
      exact ⟨0, none, 0, rfl, by rw [setAt_zero]; rfl, by omega, fun j h => absurd h (Nat.not_lt_zero _), Or.inl ⟨setAt_zero k y, rfl⟩, Below.refl _ _⟩
    case round =>
      obtain ⟨i, a, cap, rfl, rfl, hig, hbef, hL, hb⟩ := hrel
      have HB := hide hbef
      have HL := hide hL
      have HBw := hide hb
      have hle := setAt_len k y i
      clear hbef hL hb
      obtain ⟨s, hs⟩ : ∃ s, s = (setAt k y i).length := ⟨_, rfl⟩
      have HSz := hide hs
      by_cases c : s < d
      · have hiT : i < T := by
          rcases Nat.lt_or_ge i T with h | h
          · exact h
          · have := HT.out i h; omega
        have N := hide (rnxt (rowV y i) wr (HX.out.rowV i))
        have hzz := HX.out.rowV (i + 1)
        obtain ⟨hz1, hz2⟩ := hzz
        have HDr := hide (draw_cast HX.out hk i)
        have hR := draw_lt (x := y) hk i
        have HBn : Hid (∀ j, j < i + 1 → (setAt k y j).length < d) := fun j hj => by
          by_cases c2 : j = i
          · subst c2; omega
          · exact HB.out j (by omega)
        rw [← hs] at hle ⊢
        clear hs
        have ez : nxt (rowV y i) = rowV y (i + 1) := rfl
        rw [ez] at N
        clear ez
        by_cases hmem : draw k y i ∈ setAt k y i
        · have HO := hide (setAt_old HX.out hk hmem)
          rcases HL.out with ⟨he, _⟩ | ⟨h0, g, cap', hv, hc1, hc2, hc⟩
          · rw [he] at hmem; cases hmem
          · injection hv with e1 e2 e3
            subst e1 e3
            have I : Hid (Calls Tryz.prog 11 #[.slice (some ⟨g, 0, none⟩) s cap, .int .i64 (rowV y (i + 1) % (k : Int))] wr fun e w' => e = .returned (.bool true) ∧ wr = w') := by
              obtain ⟨q, hq, he⟩ := List.getElem_of_mem hmem
              rw [HDr.out, HSz.out]
              exact rin_yes g 0 _ cap _ _ wr (by omega) hc q hq (by simp [List.getD, hq, he])
            have HLo := hide (show Lst wr (.slice (some ⟨g, 0, none⟩) s cap) (setAt k y i) from ⟨g, cap, by rw [HSz.out], hc1, hc2, hc⟩)
            unfold maxLen at hc2
            have hsc : s ≤ cap := by have := HSz.out; omega
            have H0 := hide h0
            clear hmem HL hc1 e2 HDr hc h0
            generalize rowV y i = x at *
            generalize hzq : rowV y (i + 1) = z at *
            have HZ := hide hzq
            clear hzq
            go_wp2_with fail
            refine (N.out).mono ?_
            rintro e w2 ⟨rfl, rfl⟩
            go_wp2_with fail
            refine (I.out).mono ?_
            rintro e w2 ⟨rfl, rfl⟩
            go_wp2
            go_roundg (gk - 1)
            case measure => omega
            case rel =>
              refine ⟨i + 1, some ⟨g, 0, none⟩, cap, by rw [HZ.out], by rw [HO.out, HSz.out], by omega, HBn.out, Or.inr ⟨?_, ?_⟩, HBw.out⟩
              · rw [HO.out]; exact H0.out
              · rw [HO.out]; exact HLo.out
        · obtain ⟨A, B, hAB, hAB2, hA, hB⟩ := setAt_new HX.out hk hmem
          have HN := hide hAB2
          have PI : Hid (∃ a' cap', (.slice a s cap : Value) = .slice a' s cap' ∧ Calls Tryz.prog 11 #[.slice a s cap, .int .i64 (rowV y (i + 1) % (k : Int))] wr (fun e w' => e = .returned (.bool false) ∧ wr = w')
              ∧ Calls Tryz.prog 82 #[.slice a s cap, .int .i64 (rowV y (i + 1) % (k : Int))] wr (fun e w' => ∃ v, e = .returned v ∧ Lst w' v (A ++ draw k y i :: B) ∧ Below wr.heap.size wr w') ∧ cap ≤ 9223372036854775807 ∧ s ≤ cap) := by
            refine ⟨a, cap, rfl, ?_⟩
            rw [HDr.out]
            rcases HL.out with ⟨he, hv⟩ | ⟨h0, g, cap', hv, hc1, hc2, hc⟩
            · have hs0 : s = 0 := by rw [HSz.out, he]; rfl
              rw [he] at hv
              injection hv with e1 e2 e3
              subst e1 e3 hs0
              have hAB0 : A = [] ∧ B = [] := List.append_eq_nil_iff.1 (by rw [← hAB]; exact he)
              obtain ⟨rfl, rfl⟩ := hAB0
              exact ⟨rin_nil _ wr, (rput_nil _ wr (by omega)).mono fun e w' ⟨v, he, hl, hb, _⟩ => ⟨v, he, hl, hb⟩, by omega, by omega⟩
            · injection hv with e1 e2 e3
              subst e1 e3
              have hsz9 := HSz.out
              rw [HSz.out]
              refine ⟨rin_no g 0 _ cap _ _ wr (by unfold maxLen at *; omega) hc (fun q hq he => hmem ?_), (rput_ok g cap _ A B _ wr hAB h0 (by omega) hc1 hc2 (by omega) hc hA hB).mono fun e w' ⟨v, he, hl, hb, _⟩ => ⟨v, he, hl, hb⟩, by unfold maxLen at hc2; omega, hc1⟩
              have e9 : (setAt k y i).getD q 0 = draw k y i := by omega
              rw [← e9]
              have e10 : (setAt k y i).getD q 0 = (setAt k y i)[q] := by simp [List.getD, hq]
              rw [e10]
              exact List.getElem_mem hq
          obtain ⟨_, _, _, hI, hP, hcap, hsc⟩ := PI.out
          have I := hide hI
          have Pu := hide hP
          clear PI hI hP hmem HL HDr hA hB hAB hAB2
          generalize rowV y i = x at *
          generalize hzq : rowV y (i + 1) = z at *
          have HZ := hide hzq
          clear hzq
          go_wp2_with fail
          refine (N.out).mono ?_
          rintro e w2 ⟨rfl, rfl⟩
          go_wp2_with fail
          refine (I.out).mono ?_
          rintro e w2 ⟨rfl, rfl⟩
          go_wp2_with fail
          refine (Pu.out).mono ?_
          rintro e w2 ⟨v2, rfl, hl2, hb2⟩
          rw [← HN.out] at hl2
          obtain ⟨g2, cap2, rfl, hd1', hd2', hd3'⟩ := id hl2
          have HL2 := hide hl2
          have HB2 := hide (below_two HBw.out hb2)
          clear hl2 hb2 hd1' hd2' hd3'
          go_wp2
          go_roundg (gk - 1)
          case measure => omega
          case rel => exact ⟨i + 1, _, _, by rw [HZ.out], rfl, by omega, HBn.out, Or.inr ⟨by rw [HN.out, List.length_append, List.length_cons]; omega, HL2.out⟩, HB2.out⟩
      · have hst := hide (stop_of HX.out hk (d := d) (i := i) (by omega) HB.out)
        have hLs : Hid (Lst wr (.slice a s cap) (setAt k y i) ∧ s ≤ cap ∧ cap ≤ 9223372036854775807) := by
          rcases HL.out with ⟨he, hv⟩ | ⟨h0, hl⟩
          · have := hst.out.1; rw [he] at this; simp at this; omega
          · obtain ⟨g, cap', hv, hc1, hc2, hc⟩ := id hl
            injection hv with e1 e2 e3
            subst e3
            rw [HSz.out]
            exact ⟨hl, hc1, by unfold maxLen at hc2; omega⟩
        have hsc := hLs.out.2.1
        have hcc := hLs.out.2.2
        rw [← hs] at hle ⊢
        clear hs
        generalize rowV y i = x at *
        go_wp2
        go_ret
        exact ⟨_, rfl, by rw [HS.out i (HD.out ▸ hst.out)]; exact hLs.out.1, HBw.out⟩
end Go.Proofs.YtjgifjkdgoijmaaGreatDoor

namespace Go.Proofs.YtjgifjkdgoijmaaGreatDoor
open Go.RowKit Go.Maps
set_option linter.unusedVariables false
set_option maxRecDepth 100000

/-- A Peeler of dropref1's in block b: what it knows; its two slices. -/
structure RPb (w : World) (b k : Nat) (kn : Nat → Bool) (B : Nat → ByteArray) (vL vT : Value) : Prop where
  kk : w.cell? ⟨b, 0, none⟩ = some (.int .i64 k)
  known : ∀ r, r < 16 → w.cell? ⟨b, 1 + r, none⟩ = some (.bool (kn r)) ∧ w.frozen? ⟨b, 1 + r, none⟩ = false
  blocks : ∀ r, r < 16 → w.cell? ⟨b, 17 + r, none⟩ = some (.string (B r)) ∧ w.frozen? ⟨b, 17 + r, none⟩ = false
  waits : w.cell? ⟨b, 33, none⟩ = some vL ∧ w.frozen? ⟨b, 33, none⟩ = false
  taken : w.cell? ⟨b, 34, none⟩ = some vT ∧ w.frozen? ⟨b, 34, none⟩ = false
theorem RPb.lt {w : World} {b k : Nat} {kn : Nat → Bool} {B : Nat → ByteArray} {vL vT : Value} (h : RPb w b k kn B vL vT) : b < w.heap.size := cell_lt h.kk
theorem RPb.of_block {w w' : World} {b k : Nat} {kn : Nat → Bool} {B : Nat → ByteArray} {vL vT : Value} (h : RPb w b k kn B vL vT) (hb : w'.heap[b]? = w.heap[b]?) : RPb w' b k kn B vL vT := by
  have hc : ∀ i, w'.cell? ⟨b, i, none⟩ = w.cell? ⟨b, i, none⟩ := fun i => World.cell?_of_block (w := w) hb
  have hf : ∀ i, w'.frozen? ⟨b, i, none⟩ = w.frozen? ⟨b, i, none⟩ := fun i => World.frozen?_of_block (w := w) hb
  refine ⟨by rw [hc]; exact h.kk, fun r hr => ?_, fun r hr => ?_, ?_, ?_⟩
  · rw [hc, hf]; exact h.known r hr
  · rw [hc, hf]; exact h.blocks r hr
  · rw [hc, hf]; exact h.waits
  · rw [hc, hf]; exact h.taken
theorem RPb.below {w w' : World} {b k : Nat} {kn : Nat → Bool} {B : Nat → ByteArray} {vL vT : Value} (h : RPb w b k kn B vL vT) (hb : Below w.heap.size w w') : RPb w' b k kn B vL vT := h.of_block (hb.block b h.lt)

set_option maxHeartbeats 2000000 in
theorem rleft_ok (b k seed : Nat) (kn : Nat → Bool) (B : Nat → ByteArray) (vL vT : Value) (data : ByteArray) (w : World) (hk : 1 ≤ k) (hk2 : k ≤ 16) (h1 : 1 ≤ seed) (h2 : seed ≤ 10000) (hp : RPb w b k kn B vL vT) :
    Calls Tryz.prog 80 #[.pointer (some ⟨b, 0, none⟩), dropV seed data] w fun e w' => ∃ v, e = .returned v ∧ Lsh w' v (lft (setL k) kn (seed, data)) ∧ Below w.heap.size w w' ∧ ∀ i, v.ownBlock = some i → w.heap.size ≤ i := by
  have HP := hide hp
  have hb0 : Below w.heap.size w (w.alloc (.cells #[.int .i64 seed, .string data] 33)) := (Below.refl _ _).alloc (Nat.le_refl _) _
  have ck := cell_below hb0 hp.kk
  have cs := (dropIn_new w seed data).1.1
  have HB0 := hide hb0
  have RS := hide (fun w1 => rset_ok k seed w1 hk hk2 h1 h2)
  have HSL : Hid (∀ r ∈ setL k seed, r < k) := fun r hr => setL_lt hk h1 hr
  have hsl := (setL_len hk hk2 h1 h2).2
  obtain ⟨i0, hi, hz0, hz1, hz2⟩ := info_parts Tryz.infoInt
  have Hi := hide hi
  have Hz0 := hide hz0
  have Hz1 := hide hz1
  have Hz2 := hide hz2
  clear hp hb0 hi hz0 hz1 hz2
  unfold dropV
  show Calls _ _ _ _ fun e w' => ∃ v, e = .returned v ∧ Lsh w' v ((setL k seed).filter fun r => !kn r) ∧ Below w.heap.size w w' ∧ ∀ i, v.ownBlock = some i → w.heap.size ≤ i
  generalize setL k seed = l at *
  go_enter Tryz.func80, Tryz.ntmps80
  go_wp2_with fail
  go_region_held3 (fun w' => w'.cell? ⟨b, 0, none⟩ = some (.int .i64 k) ∧ w'.cell? ⟨w.heap.size, 0, none⟩ = some (.int .i64 seed)) (first | go_keep | exact ⟨cell_below hb1 ck, cell_below hb1 cs⟩)
    (first | (go_at_call 49; refine (RS.out _).mono ?_; rintro e w1 ⟨vs, rfl, hl, hb1⟩))
  obtain ⟨g, cap, rfl, hc1, hc2, hc⟩ := hl
  have hb1' : Below w.heap.size w w1 := below_two HB0.out ⟨hb1.os, hb1.tape, hb1.output, hb1.size, hb1.block⟩
  have HB1 := hide hb1'
  have HC := hide hc
  unfold maxLen at hc2
  clear hb1 hb1' hc ck cs RS
  go_wp2_with fail
  go_loopw [5, 7] (fun v i wr => ∃ j : Nat, j ≤ l.length ∧ i = .int .i64 j ∧ wr.ownsRow w1.heap.size 3 1 v ((l.take j).filter fun r => !kn r).length (toV ((l.take j).filter fun r => !kn r)) ∧ Below w1.heap.size w1 wr) (fun _ i _ => l.length - (intOf i).toNat)
  case atStart => exact ⟨0, Nat.zero_le _, rfl, World.ownsRow_nil _ _ _ _, Below.refl _ _⟩
  case round =>
    obtain ⟨j, hj, rfl, hA, hb⟩ := hrel
    have hbs := hb.size
    have hlj : ((l.take j).filter fun r => !kn r).length ≤ j := Nat.le_trans (List.length_filter_le _ _) (by rw [List.length_take]; omega)
    by_cases hlt : j < l.length
    · have hcj := cell_below hb (HC.out j hlt)
      have hlr : l.getD j 0 < k := HSL.out _ (by rw [show l.getD j 0 = l[j] by simp [List.getD, hlt]]; exact List.getElem_mem hlt)
      have hkn := cell_below hb (cell_below HB1.out (HP.out.known (l.getD j 0) (by omega)).1)
      have HF := hide (filt_snoc (p := fun r => !kn r) hlt)
      have HA := hide hA
      have HBw := hide hb
      have hlen : l.length ≤ 16 := by omega
      simp only [Nat.zero_add] at hcj
      clear hA hb
      generalize l.getD j 0 = x at *
      generalize ((l.take j).filter fun r => !kn r) = F at *
      cases hx : kn x with
      | true =>
        rw [hx] at hkn
        have HX := hide hx
        clear hx
        go_wp2_with fail
        go_quiet (fail)
        go_wp2_with fail
        go_roundw
        case rel =>
          refine ⟨j + 1, by omega, by go_num, ?_, below_drewN HBw.out _⟩
          rw [HF.out, HX.out]
          simp only [Bool.not_true, Bool.false_eq_true, if_false, List.append_nil]
          exact HA.out
        case measure => simp [intOf]; omega
      | false =>
        rw [hx] at hkn
        have HX := hide hx
        clear hx
        go_wp2_with fail
        go_quiet (fail)
        have hA2 : (wr.drewN nq).ownsRow w1.heap.size 3 1 u5 F.length (toV F) := HA.out
        have hb2 := below_drewN HBw.out nq
        have hcj2 : (wr.drewN nq).cell? ⟨g, j, none⟩ = some (.int .i64 (x : Nat)) := hcj
        have hbs2 := hb2.size
        clear hcj hkn hbs
        generalize wr.drewN nq = w2 at *
        go_wp2_with (first | (at_builtin; refine wpList_append_own _ rfl _ _ 22 rfl w1.heap.size 3 i0 (.int .i64 0) 1 8 Tryz.underlying22 Hi.out Hz0.out Hz1.out Hz2.out rfl (by decide) _ _ _ rfl (hA2.alloc _) ⟨w2.heap.size, 0, none⟩ 1 1 [.int .i64 (x : Nat)] rfl rfl (cell_one_new _ _ _) (fun x hx => by simp at hx; subst hx; rfl) (by unfold maxLen; omega) (by omega) (by simp; omega) ?_; intro v3 w3 hown3 hgrow3 hnil3) | go_in)
        go_roundw
        case rel =>
          have R : j + 1 ≤ l.length ∧ Value.int .i64 ((j : Int) + 1) = .int .i64 ((j + 1 : Nat) : Int) ∧ w3.ownsRow w1.heap.size 3 1 v3 ((l.take (j + 1)).filter fun r => !kn r).length (toV ((l.take (j + 1)).filter fun r => !kn r)) ∧ Below w1.heap.size w1 w3 := by
            refine ⟨by omega, by simp, ?_, (hb2.alloc hbs2 _).grown hgrow3 (by simp; omega) (fun q hq => (hA2.lt q hq).1)⟩
            rw [HF.out, HX.out]
            simp only [Bool.not_false, if_true, List.length_append, List.length_singleton]
            rw [show toV (F ++ [x]) = toV F ++ [.int .i64 (x : Nat)] by simp [toV]]
            exact hown3
          first
            | exact ⟨j + 1, R⟩
            | ((repeat apply Exists.intro); exact ⟨⟨j + 1, R⟩, rfl⟩)
        case measure => simp [intOf]; omega
    · obtain rfl : j = l.length := by omega
      rw [List.take_length] at hA
      have HLs := hide (own_lsh hA)
      have HFr : Hid (∀ i, u5.ownBlock = some i → w.heap.size ≤ i) := fun i hi => Nat.le_trans HB1.out.size (hA.lt i hi).1
      have HBw := hide (below_two HB1.out hb)
      clear hA hb
      go_wp2
      go_ret
      exact ⟨_, rfl, HLs.out, HBw.out, HFr.out⟩
end Go.Proofs.YtjgifjkdgoijmaaGreatDoor

namespace Go.Proofs.YtjgifjkdgoijmaaGreatDoor
open Go.RowKit Go.Maps
set_option linter.unusedVariables false
set_option maxRecDepth 100000

theorem RPb.setL {w : World} {b k : Nat} {kn : Nat → Bool} {B : Nat → ByteArray} {vL vT : Value} (h : RPb w b k kn B vL vT) (v : Value) : RPb (w.setCell ⟨b, 33, none⟩ v) b k kn B v vT := by
  refine ⟨by rw [cell_set_off (by decide)]; exact h.kk, fun r hr => ?_, fun r hr => ?_, ?_, ?_⟩
  · rw [cell_set_off (by omega), frozen_set]; exact h.known r hr
  · rw [cell_set_off (by omega), frozen_set]; exact h.blocks r hr
  · rw [frozen_set]; exact ⟨World.cell?_setCell_same _ _ _ h.waits.1, h.waits.2⟩
  · rw [cell_set_off (by decide), frozen_set]; exact h.taken
theorem RPb.setT {w : World} {b k : Nat} {kn : Nat → Bool} {B : Nat → ByteArray} {vL vT : Value} (h : RPb w b k kn B vL vT) (v : Value) : RPb (w.setCell ⟨b, 34, none⟩ v) b k kn B vL v := by
  refine ⟨by rw [cell_set_off (by decide)]; exact h.kk, fun r hr => ?_, fun r hr => ?_, ?_, ?_⟩
  · rw [cell_set_off (by omega), frozen_set]; exact h.known r hr
  · rw [cell_set_off (by omega), frozen_set]; exact h.blocks r hr
  · rw [cell_set_off (by decide), frozen_set]; exact h.waits
  · rw [frozen_set]; exact ⟨World.cell?_setCell_same _ _ _ h.taken.1, h.taken.2⟩
theorem RPb.setKnown {w : World} {b k : Nat} {kn : Nat → Bool} {B : Nat → ByteArray} {vL vT : Value} (h : RPb w b k kn B vL vT) {x : Nat} (hx : x < 16) : RPb (w.setCell ⟨b, 1 + x, none⟩ (.bool true)) b k (upd kn x true) B vL vT := by
  refine ⟨by rw [cell_set_off (by omega)]; exact h.kk, fun r hr => ?_, fun r hr => ?_, ?_, ?_⟩
  · rw [frozen_set]
    refine ⟨?_, (h.known r hr).2⟩
    by_cases c : r = x
    · subst c
      rw [World.cell?_setCell_same _ _ _ (h.known r hr).1]; simp [upd]
    · rw [cell_set_off (by omega), (h.known r hr).1]; simp [upd, c]
  · rw [cell_set_off (by omega), frozen_set]; exact h.blocks r hr
  · rw [cell_set_off (by omega), frozen_set]; exact h.waits
  · rw [cell_set_off (by omega), frozen_set]; exact h.taken
theorem RPb.setBlock {w : World} {b k : Nat} {kn : Nat → Bool} {B : Nat → ByteArray} {vL vT : Value} (h : RPb w b k kn B vL vT) {x : Nat} (hx : x < 16) (s : ByteArray) : RPb (w.setCell ⟨b, 17 + x, none⟩ (.string s)) b k kn (upd B x s) vL vT := by
  refine ⟨by rw [cell_set_off (by omega)]; exact h.kk, fun r hr => ?_, fun r hr => ?_, ?_, ?_⟩
  · rw [cell_set_off (by omega), frozen_set]; exact h.known r hr
  · rw [frozen_set]
    refine ⟨?_, (h.blocks r hr).2⟩
    by_cases c : r = x
    · subst c
      rw [World.cell?_setCell_same _ _ _ (h.blocks r hr).1]; simp [upd]
    · rw [cell_set_off (by omega), (h.blocks r hr).1]; simp [upd, c]
  · rw [cell_set_off (by omega), frozen_set]; exact h.waits
  · rw [cell_set_off (by omega), frozen_set]; exact h.taken
/-- dropref1's Peeler, its state, its two rows; and what of w0 has turned. -/
structure RSt (M : Nat → Prop) (w0 w : World) (base b k : Nat) (p : PS) (T : List Nat) (vL vT : Value) : Prop where
  blk : RPb w b k p.known p.B vL vT
  ownL : w.ownsRow base 33 2 vL p.L.length (dC p.L)
  ownT : w.ownsRow base 3 1 vT T.length (toV T)
  apL : vL.ownBlock ≠ some b
  apT : vT.ownBlock ≠ some b
  apLT : Apart vL vT
  inL : ∀ i, vL.ownBlock = some i → M i ∨ w0.heap.size ≤ i
  inT : ∀ i, vT.ownBlock = some i → M i ∨ w0.heap.size ≤ i
  inB : M b
  kept : Kept M w0 w
theorem RSt.below {M : Nat → Prop} {w0 w w' : World} {base b k : Nat} {p : PS} {T : List Nat} {vL vT : Value} (h : RSt M w0 w base b k p T vL vT) (hb : Below w.heap.size w w') : RSt M w0 w' base b k p T vL vT :=
  ⟨h.blk.below hb, own_under' h.ownL hb, own_under' h.ownT hb, h.apL, h.apT, h.apLT, h.inL, h.inT, h.inB, h.kept.below hb⟩
/-- A new row of waiting ones is stored. -/
theorem RSt.storeL {M : Nat → Prop} {w0 w w1 : World} {base b k : Nat} {p : PS} {T : List Nat} {vL vT : Value} (h : RSt M w0 w base b k p T vL vT) {row : Option Nat} (hg : w.grownBy w1 row) (hrow : row = none ∨ row = vL.ownBlock) {v : Value} {L : List Drp} (hv : w1.ownsRow base 33 2 v L.length (dC L))
    (hat : v.ownBlock = none ∨ v.ownBlock = vL.ownBlock ∨ ∃ i, v.ownBlock = some i ∧ w.heap.size ≤ i) : RSt M w0 (w1.setCell ⟨b, 33, none⟩ v) base b k ⟨p.known, p.B, L⟩ T v vT := by
  have hrb : row ≠ some b := by
    rcases hrow with e | e
    · rw [e]; simp
    · rw [e]; exact h.apL
  have hrT : vT.ownBlock = none ∨ vT.ownBlock ≠ row := by
    rcases hrow with e | e
    · rw [e]; cases vT.ownBlock with
      | none => exact Or.inl rfl
      | some _ => exact Or.inr (by simp)
    · rw [e]; exact h.apLT.kept
  have hbl : w1.heap[b]? = w.heap[b]? := hg.block b h.blk.lt (fun e => hrb e.symm)
  have hsz : w.heap.size ≤ w1.heap.size := hg.size
  have hnb : v.ownBlock ≠ some b := by
    rcases hat with e | e | ⟨i, e, hi⟩
    · rw [e]; simp
    · rw [e]; exact h.apL
    · rw [e]; intro e2; cases e2; have := h.blk.lt; omega
  have hT1 := h.ownT.kept hg hrT
  refine ⟨(h.blk.of_block hbl).setL v, own_set hv hnb, own_set hT1 h.apT, hnb, h.apT, ?_, ?_, h.inT, h.inB, ?_⟩
  · rcases hat with e | e | ⟨i, e, hi⟩
    · exact Or.inl e
    · unfold Apart; rw [e]; exact h.apLT
    · refine Or.inr (Or.inr fun e2 => ?_)
      rw [e] at e2
      have := (h.ownT.lt i e2.symm).2
      omega
  · intro j hj
    rcases hat with e | e | ⟨i, e, hi⟩
    · rw [e] at hj; cases hj
    · rw [e] at hj; exact h.inL j hj
    · rw [e] at hj; cases hj; exact Or.inr (Nat.le_trans h.kept.size hi)
  · refine (h.kept.grown hg fun i e => ?_).setCell _ _ (Or.inl h.inB)
    rcases hrow with e2 | e2
    · rw [e2] at e; cases e
    · rw [e2] at e; exact h.inL i e
theorem RSt.storeT {M : Nat → Prop} {w0 w w1 : World} {base b k : Nat} {p : PS} {T : List Nat} {vL vT : Value} (h : RSt M w0 w base b k p T vL vT) (hg : w.grownBy w1 vT.ownBlock) {v : Value} {T' : List Nat} (hv : w1.ownsRow base 3 1 v T'.length (toV T'))
    (hat : v.ownBlock = vT.ownBlock ∨ ∃ i, v.ownBlock = some i ∧ w.heap.size ≤ i) : RSt M w0 (w1.setCell ⟨b, 34, none⟩ v) base b k p T' vL v := by
  have hrL : vL.ownBlock = none ∨ vL.ownBlock ≠ vT.ownBlock := h.apLT.symm.kept
  have hbl : w1.heap[b]? = w.heap[b]? := hg.block b h.blk.lt (fun e => h.apT e.symm)
  have hnb : v.ownBlock ≠ some b := by
    rcases hat with e | ⟨i, e, hi⟩
    · rw [e]; exact h.apT
    · rw [e]; intro e2; cases e2; have := h.blk.lt; omega
  have hL1 := h.ownL.kept hg hrL
  refine ⟨(h.blk.of_block hbl).setT v, own_set hL1 h.apL, own_set hv hnb, h.apL, hnb, ?_, h.inL, ?_, h.inB, ?_⟩
  · rcases hat with e | ⟨i, e, hi⟩
    · unfold Apart; rw [e]; exact h.apLT
    · refine Or.inr (Or.inr fun e2 => ?_)
      rw [e] at e2
      have := (h.ownL.lt i e2).2
      omega
  · intro j hj
    rcases hat with e | ⟨i, e, hi⟩
    · rw [e] at hj; exact h.inT j hj
    · rw [e] at hj; cases hj; exact Or.inr (Nat.le_trans h.kept.size hi)
  · exact (h.kept.grown hg fun i e => h.inT i e).setCell _ _ (Or.inl h.inB)
/-- A block has come to be known. -/
theorem RSt.tell {M : Nat → Prop} {w0 w : World} {base b k : Nat} {p : PS} {T : List Nat} {vL vT : Value} (h : RSt M w0 w base b k p T vL vT) {x : Nat} (hx : x < 16) (s : ByteArray) :
    RSt M w0 ((w.setCell ⟨b, 1 + x, none⟩ (.bool true)).setCell ⟨b, 17 + x, none⟩ (.string s)) base b k ⟨upd p.known x true, upd p.B x s, p.L⟩ T vL vT :=
  ⟨(h.blk.setKnown hx).setBlock hx s, own_set (own_set h.ownL h.apL) h.apL, own_set (own_set h.ownT h.apT) h.apT, h.apL, h.apT, h.apLT, h.inL, h.inT, h.inB, (h.kept.setCell _ _ (Or.inl h.inB)).setCell _ _ (Or.inl h.inB)⟩

/-- One more is put. -/
theorem rput_came {k x : Nat} {kn kn' : Nat → Bool} {vo : Value} {w : World} (hk2 : k ≤ 16) (hx : x < k) (h1 : kn x = false) (h2 : kn' x = false) (hl : Lsh w vo (came k kn kn')) (hn : came k kn kn' = [] → vo = .slice none 0 0) :
    Calls Tryz.prog 82 #[vo, .int .i64 (x : Nat)] w fun e w' => ∃ v, e = .returned v ∧ Lst w' v (came k kn (upd kn' x true)) ∧ Below w.heap.size w w' ∧ ∀ i, v.ownBlock = some i → w.heap.size ≤ i := by
  obtain ⟨A, B, hA1, hA2, hA3, hA4⟩ := came_ins hx h1 h2
  have hc16 := came_len16 k kn kn'
  rw [hA2]
  by_cases c0 : came k kn kn' = []
  · rw [hn c0]
    have hAB : A = [] ∧ B = [] := List.append_eq_nil_iff.1 (by rw [← hA1]; exact c0)
    obtain ⟨rfl, rfl⟩ := hAB
    exact rput_nil x w (by omega)
  · have hpos : 0 < (came k kn kn').length := List.length_pos_iff.2 c0
    obtain ⟨a9, c9, hv9, h91, h92, h93⟩ := hl
    obtain ⟨g9, c9', hv9', h94, h95, h96⟩ := h93 hpos
    rw [hv9']
    exact rput_ok g9 c9' _ A B x w hA1 hpos (by omega) h94 h95 (by omega) h96 hA3 hA4
end Go.Proofs.YtjgifjkdgoijmaaGreatDoor

namespace Go.Proofs.YtjgifjkdgoijmaaGreatDoor
open Go.RowKit Go.Maps
set_option linter.unusedVariables false
set_option maxRecDepth 100000

/-- dropref1's Peeler and its rows, as they lie. -/
structure RQ (w : World) (base b k : Nat) (p : PS) (T : List Nat) (vL vT : Value) : Prop where
  blk : RPb w b k p.known p.B vL vT
  ownL : w.ownsRow base 33 2 vL p.L.length (dC p.L)
  ownT : w.ownsRow base 3 1 vT T.length (toV T)
  apL : vL.ownBlock ≠ some b
  apT : vT.ownBlock ≠ some b
  apLT : Apart vL vT
  inb : base ≤ b
def footR (b : Nat) (vL vT : Value) (i : Nat) : Prop := i = b ∨ vL.ownBlock = some i ∨ vT.ownBlock = some i
theorem RQ.st {w : World} {base b k : Nat} {p : PS} {T : List Nat} {vL vT : Value} (h : RQ w base b k p T vL vT) : RSt (footR b vL vT) w w base b k p T vL vT :=
  ⟨h.blk, h.ownL, h.ownT, h.apL, h.apT, h.apLT, fun i e => Or.inl (Or.inr (Or.inl e)), fun i e => Or.inl (Or.inr (Or.inr e)), Or.inl rfl, Kept.refl _ _⟩
theorem RSt.rq {M : Nat → Prop} {w0 w : World} {base b k : Nat} {p : PS} {T : List Nat} {vL vT : Value} (h : RSt M w0 w base b k p T vL vT) (hb : base ≤ b) : RQ w base b k p T vL vT := ⟨h.blk, h.ownL, h.ownT, h.apL, h.apT, h.apLT, hb⟩
theorem own_block {w w' : World} {B e size n : Nat} {v : Value} {xs : List Value} (h : w.ownsRow B e size v n xs) (hb : ∀ i, v.ownBlock = some i → w'.heap[i]? = w.heap[i]?) : w'.ownsRow B e size v n xs := by
  refine ⟨h.1, ?_⟩
  rcases h.2 with hn | ⟨g, cap, cur, hv, h1, hgg, rest⟩
  · exact .inl hn
  · exact .inr ⟨g, cap, cur, hv, h1, (hb g (by rw [hv]; rfl)).trans hgg, rest⟩
theorem RQ.keep {w w' : World} {base b k : Nat} {p : PS} {T : List Nat} {vL vT : Value} (h : RQ w base b k p T vL vT) (hb : ∀ i, footR b vL vT i → w'.heap[i]? = w.heap[i]?) : RQ w' base b k p T vL vT :=
  ⟨h.blk.of_block (hb b (Or.inl rfl)), own_block h.ownL fun i e => hb i (Or.inr (Or.inl e)), own_block h.ownT fun i e => hb i (Or.inr (Or.inr e)), h.apL, h.apT, h.apLT, h.inb⟩
theorem RQ.lt {w : World} {base b k : Nat} {p : PS} {T : List Nat} {vL vT : Value} (h : RQ w base b k p T vL vT) : ∀ i, footR b vL vT i → base ≤ i ∧ i < w.heap.size := fun i hi => by
  rcases hi with rfl | e | e
  · exact ⟨h.inb, h.blk.lt⟩
  · exact h.ownL.lt i e
  · exact h.ownT.lt i e
/-- dropref1's Peeler, as it is made. -/
theorem rpb_new (w : World) (k : Nat) (c : Array Value) (hc : c = #[.int .i64 k, .bool false, .bool false, .bool false, .bool false, .bool false, .bool false, .bool false, .bool false, .bool false, .bool false, .bool false, .bool false, .bool false, .bool false, .bool false, .bool false, .string ⟨#[]⟩, .string ⟨#[]⟩, .string ⟨#[]⟩, .string ⟨#[]⟩, .string ⟨#[]⟩, .string ⟨#[]⟩, .string ⟨#[]⟩, .string ⟨#[]⟩, .string ⟨#[]⟩, .string ⟨#[]⟩, .string ⟨#[]⟩, .string ⟨#[]⟩, .string ⟨#[]⟩, .string ⟨#[]⟩, .string ⟨#[]⟩, .string ⟨#[]⟩, .slice none 0 0, .slice none 0 0]) (t : TypeId) :
    RPb (w.alloc (.cells c t)) w.heap.size k p0.known p0.B (.slice none 0 0) (.slice none 0 0) := by
  have hh := (MapKept.heap_alloc w (.cells c t)).1
  have hf : ∀ i, (w.alloc (.cells c t)).frozen? ⟨w.heap.size, i, none⟩ = false := fun i => by simp only [World.frozen?, hh]; simp
  have hcell : ∀ i, (w.alloc (.cells c t)).cell? ⟨w.heap.size, i, none⟩ = c[i]? := fun i => cell_of_row _ _ i c t (0, 0) hh
  subst hc
  refine ⟨by rw [hcell]; rfl, fun r hr => ⟨?_, hf _⟩, fun r hr => ⟨?_, hf _⟩, ⟨by rw [hcell]; rfl, hf _⟩, ⟨by rw [hcell]; rfl, hf _⟩⟩
  · rw [hcell]
    match r, hr with
    | 0, _ | 1, _ | 2, _ | 3, _ | 4, _ | 5, _ | 6, _ | 7, _ | 8, _ | 9, _ | 10, _ | 11, _ | 12, _ | 13, _ | 14, _ | 15, _ => rfl
    | n + 16, h => omega
  · rw [hcell]
    match r, hr with
    | 0, _ | 1, _ | 2, _ | 3, _ | 4, _ | 5, _ | 6, _ | 7, _ | 8, _ | 9, _ | 10, _ | 11, _ | 12, _ | 13, _ | 14, _ | 15, _ => rfl
    | n + 16, h => omega
end Go.Proofs.YtjgifjkdgoijmaaGreatDoor

namespace Go.Proofs.YtjgifjkdgoijmaaGreatDoor
open Go.RowKit Go.Maps
set_option linter.unusedVariables false
set_option maxRecDepth 100000

/-- dropref1's Ear at block b, its Peeler at bp; blocks N are none of it. -/
structure RE (M : Nat → Prop) (w0 w : World) (b bp : Nat) (vF vL vT : Value) (k z n : Nat) (dr : Int) (p : PS) (T : List Nat) (F : List Drp) (N : List Nat) : Prop where
  ck : w.cell? ⟨b, 0, none⟩ = some (.int .i64 k)
  cz : w.cell? ⟨b, 1, none⟩ = some (.int .i64 z)
  cn : w.cell? ⟨b, 2, none⟩ = some (.int .i64 n)
  cd : w.cell? ⟨b, 3, none⟩ = some (.int .i64 dr)
  cp : w.cell? ⟨b, 4, none⟩ = some (.pointer (some ⟨bp, 0, none⟩))
  cf : w.cell? ⟨b, 5, none⟩ = some vF
  fd : w.frozen? ⟨b, 3, none⟩ = false
  ff : w.frozen? ⟨b, 5, none⟩ = false
  rq : RQ w 0 bp k p T vL vT
  row : w.ownsRow 0 33 2 vF F.length (dC F)
  inB : M b
  inP : ∀ i, footR bp vL vT i → M i ∨ w0.heap.size ≤ i
  inF : ∀ i, vF.ownBlock = some i → M i ∨ w0.heap.size ≤ i
  lt : ∀ i, M i → i < w0.heap.size
  apP : ¬ footR bp vL vT b
  apF : vF.ownBlock ≠ some b
  ap : ∀ i, vF.ownBlock = some i → ¬ footR bp vL vT i
  kept : Kept M w0 w
  off : ∀ q ∈ N, w0.heap.size ≤ q ∧ q < w.heap.size ∧ q ≠ b ∧ ¬ footR bp vL vT q ∧ vF.ownBlock ≠ some q
variable {M : Nat → Prop} {w0 w w' : World} {b bp : Nat} {vF vL vT : Value} {k z n : Nat} {dr : Int} {p q : PS} {T T' : List Nat} {F F' : List Drp} {N : List Nat}
theorem RE.blt (h : RE M w0 w b bp vF vL vT k z n dr p T F N) : b < w.heap.size := cell_lt h.ck
theorem RE.keep (h : RE M w0 w b bp vF vL vT k z n dr p T F N) (hk : Kept M w0 w') (hs : w.heap.size ≤ w'.heap.size) (hb : w'.heap[b]? = w.heap[b]?) (hP : ∀ i, footR bp vL vT i → w'.heap[i]? = w.heap[i]?) (hF : ∀ i, vF.ownBlock = some i → w'.heap[i]? = w.heap[i]?) : RE M w0 w' b bp vF vL vT k z n dr p T F N := by
  have hc : ∀ i, w'.cell? ⟨b, i, none⟩ = w.cell? ⟨b, i, none⟩ := fun i => World.cell?_of_block (w := w) hb
  have hf : ∀ i, w'.frozen? ⟨b, i, none⟩ = w.frozen? ⟨b, i, none⟩ := fun i => World.frozen?_of_block (w := w) hb
  exact ⟨(hc 0).trans h.ck, (hc 1).trans h.cz, (hc 2).trans h.cn, (hc 3).trans h.cd, (hc 4).trans h.cp, (hc 5).trans h.cf, (hf 3).trans h.fd, (hf 5).trans h.ff, h.rq.keep hP, own_blk h.row hF, h.inB, h.inP, h.inF, h.lt, h.apP, h.apF, h.ap, hk, fun x hx => by
    obtain ⟨h0, h1, h2⟩ := h.off x hx
    exact ⟨h0, Nat.lt_of_lt_of_le h1 hs, h2⟩⟩
theorem RE.below (h : RE M w0 w b bp vF vL vT k z n dr p T F N) (hb : Below w.heap.size w w') : RE M w0 w' b bp vF vL vT k z n dr p T F N :=
  h.keep (h.kept.below hb) hb.size (hb.block b h.blt) (fun i hi => hb.block i (h.rq.lt i hi).2) fun i e => hb.block i (h.row.lt i e).2
/-- The Peeler has turned. -/
theorem RE.take {vL' vT' : Value} (h : RE M w0 w b bp vF vL vT k z n dr p T F N) (hs : RQ w' 0 bp k q T' vL' vT') (hk : Kept (footR bp vL vT) w w') (hf : ∀ i, footR bp vL' vT' i → footR bp vL vT i ∨ w.heap.size ≤ i) : RE M w0 w' b bp vF vL' vT' k z n dr q T' F N ∧ ∀ x ∈ N, w'.heap[x]? = w.heap[x]? := by
  have hb : w'.heap[b]? = w.heap[b]? := hk.block b h.blt h.apP
  have hc : ∀ i, w'.cell? ⟨b, i, none⟩ = w.cell? ⟨b, i, none⟩ := fun i => World.cell?_of_block (w := w) hb
  have hz : ∀ i, w'.frozen? ⟨b, i, none⟩ = w.frozen? ⟨b, i, none⟩ := fun i => World.frozen?_of_block (w := w) hb
  refine ⟨⟨(hc 0).trans h.ck, (hc 1).trans h.cz, (hc 2).trans h.cn, (hc 3).trans h.cd, (hc 4).trans h.cp, (hc 5).trans h.cf, (hz 3).trans h.fd, (hz 5).trans h.ff, hs, own_blk h.row fun i e => hk.block i (h.row.lt i e).2 (h.ap i e), h.inB, fun i hi => ?_, h.inF, h.lt, fun hi => ?_, h.apF, fun i e hi => ?_, h.kept.trans hk fun i hi hf => (h.inP i hf).resolve_right (by omega), fun x hx => ?_⟩, fun x hx => ?_⟩
  · rcases hf i hi with h9 | h9
    · exact h.inP i h9
    · exact Or.inr (Nat.le_trans h.kept.size h9)
  · rcases hf b hi with h9 | h9
    · exact h.apP h9
    · have := h.blt; omega
  · rcases hf i hi with h9 | h9
    · exact h.ap i e h9
    · have := (h.row.lt i e).2; omega
  · obtain ⟨h0, h1, h2, h3, h4⟩ := h.off x hx
    exact ⟨h0, Nat.lt_of_lt_of_le h1 hk.size, h2, fun h9 => (hf x h9).elim h3 fun e => by omega, h4⟩
  · obtain ⟨h0, h1, h2, h3, h4⟩ := h.off x hx
    exact hk.block x h1 h3
/-- How many were heard is stored. -/
theorem RE.tick (h : RE M w0 w b bp vF vL vT k z n dr p T F N) (m : Int) : RE M w0 (w.setCell ⟨b, 3, none⟩ (.int .i64 m)) b bp vF vL vT k z n m p T F N := by
  have hh : ∀ i, i ≠ b → (w.setCell ⟨b, 3, none⟩ (.int .i64 m)).heap[i]? = w.heap[i]? := fun i hi => Below.heap_setCell w ⟨b, 3, none⟩ _ i hi
  have hsz : w.heap.size ≤ (w.setCell ⟨b, 3, none⟩ (.int .i64 m)).heap.size := (show Below 0 w (w.setCell ⟨b, 3, none⟩ (.int .i64 m)) from (Below.refl 0 w).setCell (Nat.zero_le _) _).size
  refine ⟨?_, ?_, ?_, World.cell?_setCell_same _ _ _ h.cd, ?_, ?_, by rw [frozen_set]; exact h.fd, by rw [frozen_set]; exact h.ff, h.rq.keep fun i hi => hh i fun e => h.apP (e ▸ hi), own_set h.row h.apF, h.inB, h.inP, h.inF, h.lt, h.apP, h.apF, h.ap, h.kept.setCell _ _ (Or.inl h.inB), fun x hx => ?_⟩
  · rw [cell_set_off (by decide)]; exact h.ck
  · rw [cell_set_off (by decide)]; exact h.cz
  · rw [cell_set_off (by decide)]; exact h.cn
  · rw [cell_set_off (by decide)]; exact h.cp
  · rw [cell_set_off (by decide)]; exact h.cf
  · obtain ⟨h0, h1, h2⟩ := h.off x hx
    exact ⟨h0, Nat.lt_of_lt_of_le h1 hsz, h2⟩
/-- A drop is put behind those that were new. -/
theorem RE.push {w1 : World} {v1 : Value} (h : RE M w0 w b bp vF vL vT k z n dr p T F N) (hg : w.grownBy w1 vF.ownBlock) (ho : w1.ownsRow 0 33 2 v1 F'.length (dC F')) (hat : v1.ownBlock = vF.ownBlock ∨ ∃ i, v1.ownBlock = some i ∧ w.heap.size ≤ i) : RE M w0 (w1.setCell ⟨b, 5, none⟩ v1) b bp v1 vL vT k z n dr p T F' N := by
  have hb1 : w1.heap[b]? = w.heap[b]? := hg.block b h.blt fun e => h.apF e.symm
  have hc : ∀ i, w1.cell? ⟨b, i, none⟩ = w.cell? ⟨b, i, none⟩ := fun i => World.cell?_of_block (w := w) hb1
  have hz : ∀ i, w1.frozen? ⟨b, i, none⟩ = w.frozen? ⟨b, i, none⟩ := fun i => World.frozen?_of_block (w := w) hb1
  have hh : ∀ i, i ≠ b → (w1.setCell ⟨b, 5, none⟩ v1).heap[i]? = w1.heap[i]? := fun i hi => Below.heap_setCell w1 ⟨b, 5, none⟩ v1 i hi
  have hsz : w1.heap.size ≤ (w1.setCell ⟨b, 5, none⟩ v1).heap.size := (show Below 0 w1 (w1.setCell ⟨b, 5, none⟩ v1) from (Below.refl 0 w1).setCell (Nat.zero_le _) _).size
  have hn : v1.ownBlock ≠ some b := fun e => by
    rcases hat with h9 | ⟨i, h9, hi⟩
    · exact h.apF (h9 ▸ e)
    · rw [e] at h9; cases h9; have := h.blt; omega
  refine ⟨?_, ?_, ?_, ?_, ?_, World.cell?_setCell_same _ _ _ ((hc 5).trans h.cf), ?_, ?_, h.rq.keep fun i hi => (hh i fun e => h.apP (e ▸ hi)).trans (hg.block i (h.rq.lt i hi).2 fun e => h.ap i e.symm hi), own_set ho hn, h.inB, h.inP, fun i e => ?_, h.lt, h.apP, hn, fun i e hi => ?_, (h.kept.grown hg fun i e => h.inF i e).setCell _ _ (Or.inl h.inB), fun x hx => ?_⟩
  · rw [cell_set_off (by decide), hc]; exact h.ck
  · rw [cell_set_off (by decide), hc]; exact h.cz
  · rw [cell_set_off (by decide), hc]; exact h.cn
  · rw [cell_set_off (by decide), hc]; exact h.cd
  · rw [cell_set_off (by decide), hc]; exact h.cp
  · rw [frozen_set, hz]; exact h.fd
  · rw [frozen_set, hz]; exact h.ff
  · rcases hat with h9 | ⟨j, h9, hj⟩
    · exact h.inF i (h9 ▸ e)
    · rw [e] at h9; cases h9; exact Or.inr (Nat.le_trans h.kept.size hj)
  · rcases hat with h9 | ⟨j, h9, hj⟩
    · exact h.ap i (h9 ▸ e) hi
    · rw [e] at h9; cases h9; have := (h.rq.lt i hi).2; omega
  · obtain ⟨h0, h1, h2, h3, h4⟩ := h.off x hx
    refine ⟨h0, Nat.lt_of_lt_of_le h1 (Nat.le_trans hg.size hsz), h2, h3, fun e => ?_⟩
    rcases hat with e2 | ⟨j, e2, hj⟩
    · exact h4 (e2 ▸ e)
    · rw [e] at e2; cases e2; omega
/-- One of the other blocks is written. -/
theorem RE.poke (h : RE M w0 w b bp vF vL vT k z n dr p T F N) {a : Addr} (ha : a.block ∈ N) (u : Value) : RE M w0 (w.setCell a u) b bp vF vL vT k z n dr p T F N := by
  obtain ⟨h0, h1, h2, h3, h4⟩ := h.off _ ha
  have hh : ∀ i, i ≠ a.block → (w.setCell a u).heap[i]? = w.heap[i]? := fun i hi => Below.heap_setCell w a u i hi
  have hsz : w.heap.size ≤ (w.setCell a u).heap.size := (show Below 0 w (w.setCell a u) from (Below.refl 0 w).setCell (Nat.zero_le _) _).size
  exact h.keep (h.kept.setCell _ _ (Or.inr h0)) hsz (hh b (Ne.symm h2)) (fun i hi => hh i fun e => h3 (e ▸ hi)) fun i e => hh i fun e2 => h4 (e2 ▸ e)
theorem RE.now (h : RE M w0 w b bp vF vL vT k z n dr p T F N) : RE (plusM M w0 w) w w b bp vF vL vT k z n dr p T F [] :=
  ⟨h.ck, h.cz, h.cn, h.cd, h.cp, h.cf, h.fd, h.ff, h.rq, h.row, Or.inl h.inB, fun i hi => Or.inl ((h.inP i hi).imp id fun e => ⟨e, (h.rq.lt i hi).2⟩), fun i hi => Or.inl ((h.inF i hi).imp id fun e => ⟨e, (h.row.lt i hi).2⟩), fun i hi => hi.elim (fun e => Nat.lt_of_lt_of_le (h.lt i e) h.kept.size) fun e => e.2, h.apP, h.apF, h.ap, Kept.refl _ _, fun x hx => by cases hx⟩
theorem RE.far (h : RE M w w b bp vF vL vT k z n dr p T F []) (hs : w.heap.size ≤ w'.heap.size) (hM : ∀ i, M i → w'.heap[i]? = w.heap[i]?) : RE M w' w' b bp vF vL vT k z n dr p T F [] := by
  have hP : ∀ i, footR bp vL vT i → M i := fun i hi => (h.inP i hi).resolve_right fun e => by have := (h.rq.lt i hi).2; omega
  have hF : ∀ i, vF.ownBlock = some i → M i := fun i hi => (h.inF i hi).resolve_right fun e => by have := (h.row.lt i hi).2; omega
  have hb := hM b h.inB
  have hc : ∀ i, w'.cell? ⟨b, i, none⟩ = w.cell? ⟨b, i, none⟩ := fun i => World.cell?_of_block (w := w) hb
  have hf : ∀ i, w'.frozen? ⟨b, i, none⟩ = w.frozen? ⟨b, i, none⟩ := fun i => World.frozen?_of_block (w := w) hb
  exact ⟨(hc 0).trans h.ck, (hc 1).trans h.cz, (hc 2).trans h.cn, (hc 3).trans h.cd, (hc 4).trans h.cp, (hc 5).trans h.cf, (hf 3).trans h.fd, (hf 5).trans h.ff, h.rq.keep fun i hi => hM i (hP i hi), own_blk h.row fun i e => hM i (hF i e), h.inB, fun i hi => Or.inl (hP i hi), fun i e => Or.inl (hF i e), fun i hi => Nat.lt_of_lt_of_le (h.lt i hi) hs, h.apP, h.apF, h.ap, Kept.refl _ _, fun x hx => by cases hx⟩
/-- What a Peeler's numbers are. -/
def POk (k z : Nat) (p : PS) : Prop := Good z p ∧ ∀ r, p.known r = true → r < k
/-- dropref1's Ear that heard dr drops, of which F were new; it lies within M. -/
def RESt (w : World) (v : Value) (k z n : Nat) (dr : Int) (F : List Drp) (M : Nat → Prop) : Prop :=
  ∃ b bp vF vL vT p, v = .pointer (some ⟨b, 0, none⟩) ∧ RE M w w b bp vF vL vT k z n dr p (sds F) F [] ∧ Took (setL k) p F ∧ FOk k z n F ∧ POk k z p
theorem RESt.lt {v : Value} (h : RESt w v k z n dr F M) : ∀ i, M i → i < w.heap.size := by
  obtain ⟨b, bp, vF, vL, vT, p, _, h2, _⟩ := h
  exact h2.lt
theorem RESt.far {v : Value} (h : RESt w v k z n dr F M) (hs : w.heap.size ≤ w'.heap.size) (hM : ∀ i, M i → w'.heap[i]? = w.heap[i]?) : RESt w' v k z n dr F M := by
  obtain ⟨b, bp, vF, vL, vT, p, h1, h2, h3, h4⟩ := h
  exact ⟨b, bp, vF, vL, vT, p, h1, h2.far hs hM, h3, h4⟩
theorem RESt.below {v : Value} (h : RESt w v k z n dr F M) (hb : Below w.heap.size w w') : RESt w' v k z n dr F M := h.far hb.size fun i hi => hb.block i (h.lt i hi)
theorem RESt.kept {v : Value} {M' : Nat → Prop} (h : RESt w v k z n dr F M) (hk : Kept M' w w') (hd : ∀ i, M i → ¬ M' i) : RESt w' v k z n dr F M := h.far hk.size fun i hi => hk.block i (h.lt i hi) (hd i hi)
theorem RESt.ok {v : Value} (h : RESt w v k z n dr F M) : FOk k z n F := by
  obtain ⟨b, bp, vF, vL, vT, p, _, _, _, h4, _⟩ := h
  exact h4
theorem RESt.ptr {v : Value} (h : RESt w v k z n dr F M) : ∃ a, v = .pointer a := by
  obtain ⟨b, bp, vF, vL, vT, p, rfl, _⟩ := h
  exact ⟨_, rfl⟩
end Go.Proofs.YtjgifjkdgoijmaaGreatDoor
