/-
  Lemmas for the law above, joined into one text (ToV, RDeg, RSet, RSeeds, RRank). No statement is proved here.
-/
import Derived.Test.YtakaeikobahaoaaDoorTG3
import Derived.Test.YtakaeikobahaoaaDoorTG1
import Derived.Test.YtakaeikobahaoaaDoorTG2
import Derived.Laws.AppendOwnNone
import Derived.Test.YtakaeikobahaoaaDoorTG4
import Derived.Test.YtakaeikobahaoaaDoorTG9
namespace Go.Proofs.YtakaeikobahaoaaDoor
open Go.RowKit Go.Maps
set_option linter.unusedVariables false
set_option maxRecDepth 100000

/-- Numbers as a slice holds them. -/
def toV (l : List Nat) : List Value := l.map fun r => .int .i64 (r : Nat)
theorem toV_one (l : List Nat) : ∀ u ∈ toV l, u.oneCell' = true := fun u hu => by
  obtain ⟨r, _, rfl⟩ := List.mem_map.1 hu
  rfl
theorem take_snocR (l : List Nat) (j : Nat) (h : j < l.length) : toV (l.take (j + 1)) = toV (l.take j) ++ [.int .i64 (l.getD j 0 : Nat)] := by
  unfold toV
  rw [List.take_add_one, List.map_append]
  simp [List.getD, h]
end Go.Proofs.YtakaeikobahaoaaDoor

namespace Go.Proofs.YtakaeikobahaoaaDoor
open Go.RowKit
set_option linter.unusedVariables false
set_option maxRecDepth 100000

theorem rdeg (k n : Nat) (w : World) (hk : 1 ≤ k) (hk2 : k ≤ 16) (hn : n < 1000) : Calls Tryd.prog 21 #[.int .i64 k, .int .i64 n] w fun e w' => e = .returned (.int .i64 (deg k n)) ∧ w = w' := by
  obtain ⟨⟨p0, p1⟩, _⟩ := prods (d := 1) hk2 hn (by decide) (by decide)
  by_cases h1 : (n : Int) * (k : Int) < 1000
  · have HD : Hid (deg k n = 1) := by
      unfold Hid
      rcases Nat.lt_or_ge 1 k with h | h
      · exact degF_stop h (under_one.2 h1)
      · obtain rfl : k = 1 := by omega
        rfl
    go_enter Tryd.func21, Tryd.ntmps21
    go_wp2
    go_ret
    exact ⟨ret_int (by rw [HD.out]; rfl), rfl⟩
  · have hk1 : 2 ≤ k := by
      rcases Nat.lt_or_ge 1 k with h | h
      · exact h
      · obtain rfl : k = 1 := by omega
        exact absurd (by omega) h1
    have HD : Hid (deg k n = degF k n (k - 2) 2) := degF_on (d := 1) (by omega) (fun h => h1 (under_one.1 h))
    go_enter Tryd.func21, Tryd.ntmps21
    go_wp2
    go_loop [5] (fun i => ∃ d : Nat, 2 ≤ d ∧ d ≤ k ∧ i = .int .i64 d ∧ deg k n = degF k n (k - d) d) (fun i => k - (intOf i).toNat)
    case atStart => exact ⟨2, Nat.le_refl _, hk1, rfl, HD.out⟩
    case round =>
      obtain ⟨d, hd1, hd2, rfl, he⟩ := hrel
      have HE := hide he
      clear he
      by_cases hlt : d < k
      · obtain ⟨⟨a0, a1⟩, ⟨b0, b1⟩, c0, c1⟩ := prods (d := d) hk2 hn (by omega) (by omega)
        by_cases hu : Under k n d
        · have HS := hide (degF_stop hlt hu)
          unfold Under at hu
          go_wp2
          go_ret
          exact ⟨ret_int (by rw [HE.out, HS.out]), rfl⟩
        · have HS := hide (degF_on hlt hu)
          unfold Under at hu
          go_wp2
          go_round
          case rel => exact ⟨d + 1, by omega, by omega, by go_num, by rw [HE.out, HS.out]⟩
          case measure => simp [intOf]; omega
      · obtain rfl : d = k := by omega
        go_wp2
        go_ret
        exact ⟨ret_int (by rw [HE.out, degF_end]), rfl⟩
end Go.Proofs.YtakaeikobahaoaaDoor

namespace Go.Proofs.YtakaeikobahaoaaDoor
open Go.RowKit Go.Maps
set_option linter.unusedVariables false
set_option maxRecDepth 100000

theorem rnxt (n : Int) (w : World) (h : Num n) : Calls Tryd.prog 20 #[.int .i64 n] w fun e w' => e = .returned (.int .i64 (nxt n)) ∧ w = w' := by
  obtain ⟨h1, h2⟩ := h
  go_enter Tryd.func20, Tryd.ntmps20
  go_wp2
  go_ret
  exact ⟨ret_int (by unfold nxt; first | rfl | omega), rfl⟩

set_option maxHeartbeats 1000000 in
theorem rput_nil (r : Nat) (w : World) (hr : r ≤ 1000) :
    Calls Tryd.prog 23 #[.slice none 0 0, .int .i64 r] w fun e w' => ∃ v, e = .returned v ∧ Lst w' v [r] ∧ Below w.heap.size w w' ∧ ∀ i, v.ownBlock = some i → w.heap.size ≤ i := by
  obtain ⟨i0, hi, hz0, hz1, hz2⟩ := info_parts Tryd.infoInt
  go_enter Tryd.func23, Tryd.ntmps23
  go_wp2
  go_loop [5, 6] (fun v i => v = .slice none 0 0 ∧ i = .int .i64 0) (fun _ _ => 0)
  case atStart => exact ⟨rfl, rfl⟩
  case round =>
    obtain ⟨rfl, rfl⟩ := hrel
    go_wp2_with (first
      | (at_builtin; refine wpList_append_own _ rfl _ _ 22 rfl w.heap.size 3 i0 (.int .i64 0) 1 8 Tryd.underlying22 hi hz0 hz1 hz2 rfl (by decide) _ _ _ rfl ((World.ownsRow_nil w w.heap.size 3 1).alloc _) ⟨w.heap.size, 0, none⟩ 1 1 [.int .i64 (r : Nat)] rfl rfl (cell_one_new _ _ _) (fun x hx => by simp at hx; subst hx; rfl) (by unfold maxLen; omega) (by omega) (by simp) ?_; intro v' w2 hown' hgrow2 hnil2)
      | (at_builtin; refine wpList_append_own_none rfl _ _ 22 rfl w.heap.size 3 i0 1 Tryd.underlying22 hi _ _ _ rfl hown' rfl ?_)
      | go_in)
    go_ret
    exact ⟨v', rfl, own_lst (l := [r]) hown' (by simp), ((Below.refl _ _).alloc (Nat.le_refl _) _).grown hgrow2 (by simp) (fun j hj => by cases hj), fun i hi => (hown'.lt i hi).1⟩

set_option maxHeartbeats 2000000 in
theorem rput_ok (g cap : Nat) (l A B : List Nat) (r : Nat) (w : World) (hl : l = A ++ B) (h0 : 0 < l.length) (h16 : l.length ≤ 16) (hc1 : l.length ≤ cap) (hc2 : cap ≤ maxLen) (hr : r ≤ 1000)
    (hcell : ∀ i, i < l.length → w.cell? ⟨g, 0 + i, none⟩ = some (.int .i64 (l.getD i 0 : Nat))) (hA : ∀ a ∈ A, a < r) (hB : ∀ b ∈ B, r < b) :
    Calls Tryd.prog 23 #[.slice (some ⟨g, 0, none⟩) l.length cap, .int .i64 r] w fun e w' => ∃ v, e = .returned v ∧ Lst w' v (A ++ r :: B) ∧ Below w.heap.size w w' ∧ ∀ i, v.ownBlock = some i → w.heap.size ≤ i := by
  unfold maxLen at hc2
  have HC := hide hcell
  have hlen : l.length = A.length + B.length := by rw [hl, List.length_append]
  have HLA : Hid (∀ j, j < A.length → l.getD j 0 < r ∧ A.getD j 0 = l.getD j 0) := fun j hj => by
    have e1 : A.getD j 0 = A[j] := by simp [List.getD, hj]
    have e2 : l.getD j 0 = A[j] := by rw [hl]; simp [List.getD, hj, List.getElem?_append_left]
    exact ⟨by rw [e2]; exact hA _ (List.getElem_mem hj), by rw [e1, e2]⟩
  have HLB : Hid (A.length < l.length → r < l.getD A.length 0) := fun hj => by
    have hb : 0 < B.length := by omega
    have e2 : l.getD A.length 0 = B[0] := by rw [hl]; simp [List.getD, hb]
    rw [e2]; exact hB _ (List.getElem_mem hb)
  have HD : Hid (l.drop A.length = B) := by unfold Hid; rw [hl]; simp
  obtain ⟨i0, hi, hz0, hz1, hz2⟩ := info_parts Tryd.infoInt
  have Hi := hide hi
  have Hz0 := hide hz0
  have Hz1 := hide hz1
  have Hz2 := hide hz2
  clear hcell hl hA hB hi hz0 hz1 hz2
  generalize hn : l.length = n at *
  have HN := hide hn
  have HLN := hide hlen
  have hAn : A.length ≤ n := by omega
  clear hn hlen
  go_enter Tryd.func23, Tryd.ntmps23
  go_wp2
  go_loopw [5, 6] (fun v i wr => ∃ j : Nat, j ≤ A.length ∧ i = .int .i64 j ∧ wr.ownsRow w.heap.size 3 1 v j (toV (A.take j)) ∧ Below w.heap.size w wr) (fun _ i _ => n - (intOf i).toNat)
  case atStart => exact ⟨0, Nat.zero_le _, rfl, World.ownsRow_nil _ _ _ _, Below.refl _ _⟩
  case round =>
    obtain ⟨j, hj, rfl, hA, hb⟩ := hrel
    have HA := hide hA
    have hbs := hb.size
    clear hA
    by_cases hlt : j < A.length
    · have hcj := cell_below hb (HC.out j (by omega))
      have hjr := (HLA.out j hlt).1
      have HE := hide (HLA.out j hlt).2
      have hjn : j < n := by omega
      have hjn' : (j : Int) < (n : Int) := by omega
      have HT := hide (take_snocR A j hlt)
      have hjr' : ((l.getD j 0 : Nat) : Int) < (r : Int) := by omega
      simp only [Nat.zero_add] at hcj
      generalize l.getD j 0 = x at *
      go_wp2_with (first | (at_builtin; refine wpList_append_own _ rfl _ _ 22 rfl w.heap.size 3 i0 (.int .i64 0) 1 8 Tryd.underlying22 Hi.out Hz0.out Hz1.out Hz2.out rfl (by decide) _ _ _ rfl (HA.out.alloc _) ⟨wr.heap.size, 0, none⟩ 1 1 [.int .i64 (x : Nat)] rfl rfl (cell_one_new _ _ _) (fun x hx => by simp at hx; subst hx; rfl) (by unfold maxLen; omega) (by omega) (by simp; omega) ?_; intro v2 w2 hown2 hgrow2 hnil2; have HA2 := hide hown2; clear hown2 hnil2) | go_in)
      go_roundw
      case rel =>
        have R : j + 1 ≤ A.length ∧ Value.int .i64 ((j : Int) + 1) = .int .i64 ((j + 1 : Nat) : Int) ∧ w2.ownsRow w.heap.size 3 1 v2 (j + 1) (toV (A.take (j + 1))) ∧ Below w.heap.size w w2 :=
          ⟨by omega, by simp, by rw [HT.out, HE.out]; exact HA2.out, (hb.alloc hbs _).grown hgrow2 (by simp; omega) (fun q hq => (HA.out.lt q hq).1)⟩
        first
          | exact ⟨j + 1, R⟩
          | ((repeat apply Exists.intro); exact ⟨⟨j + 1, R⟩, rfl⟩)
      case measure => simp [intOf]; omega
    · obtain rfl : j = A.length := by omega
      rw [List.take_length] at HA
      generalize hAl : A.length = j at *
      have HAL := hide hAl
      clear hAl
      by_cases hjn : j < n
      · have hcj := cell_below hb (HC.out j hjn)
        have hjr := HLB.out hjn
        have hjn' : (j : Int) < (n : Int) := by omega
        have hjc : ¬ cap = j := by omega
        have hjr' : ¬ ((l.getD j 0 : Nat) : Int) < (r : Int) := by omega
        simp only [Nat.zero_add] at hcj
        have HNW : Hid (∀ w1, Below w.heap.size w w1 → ∀ q u, (toV (l.drop j))[q]? = some u → w1.cell? ((⟨g, j, none⟩ : Addr).add q) = some u) := fun w1 hb1 q u hu => by
          unfold toV at hu
          rw [List.getElem?_map, List.getElem?_drop] at hu
          obtain ⟨y, hy, rfl⟩ := Option.map_eq_some_iff.1 hu
          have hjq : j + q < n := by have := (List.getElem?_eq_some_iff.1 hy).1; have := HN.out; omega
          have h := cell_below hb1 (HC.out (j + q) hjq)
          rw [Addr.add_lit]
          rw [Nat.zero_add] at h
          rw [h]; simp [List.getD, hy]
        have HLD : Hid ((toV (l.drop j)).length = (n - j) * 1) := by unfold Hid toV; rw [List.length_map, List.length_drop, HN.out, Nat.mul_one]
        generalize l.getD j 0 = x at *
        go_wp2_with (first | (at_builtin; refine wpList_append_own _ rfl _ _ 22 rfl w.heap.size 3 i0 (.int .i64 0) 1 8 Tryd.underlying22 Hi.out Hz0.out Hz1.out Hz2.out rfl (by decide) _ _ _ rfl (HA.out.alloc _) ⟨wr.heap.size, 0, none⟩ 1 1 [.int .i64 (r : Nat)] rfl rfl (cell_one_new _ _ _) (fun x hx => by simp at hx; subst hx; rfl) (by unfold maxLen; omega) (by omega) (by simp; omega) ?_; intro v2 w2 hown2 hgrow2 hnil2; have HA2 := hide hown2; have HG2 := hide ((hb.alloc hbs (.cells #[.int .i64 (r : Nat)] 3)).grown hgrow2 (by simp; omega) (fun q hq => (HA.out.lt q hq).1)); clear hown2 hnil2 hgrow2) | (at_builtin; refine wpList_append_own _ rfl _ _ 22 rfl w.heap.size 3 i0 (.int .i64 0) 1 8 Tryd.underlying22 Hi.out Hz0.out Hz1.out Hz2.out rfl (by decide) _ _ _ rfl HA2.out ⟨g, j, none⟩ (n - j) (cap - j) (toV (l.drop j)) rfl HLD.out (HNW.out _ HG2.out) (toV_one _) (by unfold maxLen; omega) (by omega) HG2.out.size ?_; intro v3 w3 hown3 hgrow3 hnil3) | go_in)
        go_ret
        refine ⟨v3, rfl, own_lst (B := w.heap.size) ?_ (by rw [List.length_append, List.length_cons]; omega), HG2.out.grown hgrow3 HG2.out.size (fun q hq => (HA2.out.lt q hq).1), fun i hi => (hown3.lt i hi).1⟩
        have e1 : (A ++ r :: B).length = j + 1 + (n - j) := by have := HLN.out; have := HAL.out; simp; omega
        have e2 : ((A ++ r :: B).map fun r : Nat => Value.int .i64 (r : Nat)) = toV A ++ [.int .i64 (r : Nat)] ++ toV B := by simp [toV]
        rw [e1, e2, ← HD.out]
        exact hown3
      · obtain rfl : j = n := by omega
        have hB0 : B = [] := List.eq_nil_of_length_eq_zero (by have := HLN.out; omega)
        have HB0 := hide hB0
        clear hB0
        have hjj : ¬ (j : Int) < (j : Int) := by omega
        by_cases hjc : cap = j
        · subst hjc
          go_wp2_with (first | (at_builtin; refine wpList_append_own _ rfl _ _ 22 rfl w.heap.size 3 i0 (.int .i64 0) 1 8 Tryd.underlying22 Hi.out Hz0.out Hz1.out Hz2.out rfl (by decide) _ _ _ rfl (HA.out.alloc _) ⟨wr.heap.size, 0, none⟩ 1 1 [.int .i64 (r : Nat)] rfl rfl (cell_one_new _ _ _) (fun x hx => by simp at hx; subst hx; rfl) (by unfold maxLen; omega) (by omega) (by simp; omega) ?_; intro v2 w2 hown2 hgrow2 hnil2; have HA2 := hide hown2; have HG2 := hide ((hb.alloc hbs (.cells #[.int .i64 (r : Nat)] 3)).grown hgrow2 (by simp; omega) (fun q hq => (HA.out.lt q hq).1)); clear hown2 hnil2 hgrow2) | (at_builtin; refine wpList_append_own _ rfl _ _ 22 rfl w.heap.size 3 i0 (.int .i64 0) 1 8 Tryd.underlying22 Hi.out Hz0.out Hz1.out Hz2.out rfl (by decide) _ _ _ rfl HA2.out ⟨g, 0, none⟩ 0 0 [] rfl rfl (fun q u hu => by simp at hu) (fun x hx => by cases hx) (by unfold maxLen; omega) (by omega) HG2.out.size ?_; intro v3 w3 hown3 hgrow3 hnil3) | go_in)
          go_ret
          refine ⟨v3, rfl, own_lst (B := w.heap.size) ?_ (by rw [List.length_append, List.length_cons]; omega), HG2.out.grown hgrow3 HG2.out.size (fun q hq => (HA2.out.lt q hq).1), fun i hi => (hown3.lt i hi).1⟩
          have e1 : (A ++ r :: B).length = cap + 1 + 0 := by have := HLN.out; have := HAL.out; simp; omega
          have e2 : ((A ++ r :: B).map fun r : Nat => Value.int .i64 (r : Nat)) = toV A ++ [.int .i64 (r : Nat)] ++ toV B := by simp [toV]
          rw [e1, e2, HB0.out]
          exact hown3
        · go_wp2_with (first | (at_builtin; refine wpList_append_own _ rfl _ _ 22 rfl w.heap.size 3 i0 (.int .i64 0) 1 8 Tryd.underlying22 Hi.out Hz0.out Hz1.out Hz2.out rfl (by decide) _ _ _ rfl (HA.out.alloc _) ⟨wr.heap.size, 0, none⟩ 1 1 [.int .i64 (r : Nat)] rfl rfl (cell_one_new _ _ _) (fun x hx => by simp at hx; subst hx; rfl) (by unfold maxLen; omega) (by omega) (by simp; omega) ?_; intro v2 w2 hown2 hgrow2 hnil2; have HA2 := hide hown2; have HG2 := hide ((hb.alloc hbs (.cells #[.int .i64 (r : Nat)] 3)).grown hgrow2 (by simp; omega) (fun q hq => (HA.out.lt q hq).1)); clear hown2 hnil2 hgrow2) | (at_builtin; refine wpList_append_own _ rfl _ _ 22 rfl w.heap.size 3 i0 (.int .i64 0) 1 8 Tryd.underlying22 Hi.out Hz0.out Hz1.out Hz2.out rfl (by decide) _ _ _ rfl HA2.out ⟨g, j, none⟩ 0 (cap - j) [] rfl rfl (fun q u hu => by simp at hu) (fun x hx => by cases hx) (by unfold maxLen; omega) (by omega) HG2.out.size ?_; intro v3 w3 hown3 hgrow3 hnil3) | go_in)
          go_ret
          refine ⟨v3, rfl, own_lst (B := w.heap.size) ?_ (by rw [List.length_append, List.length_cons]; omega), HG2.out.grown hgrow3 HG2.out.size (fun q hq => (HA2.out.lt q hq).1), fun i hi => (hown3.lt i hi).1⟩
          have e1 : (A ++ r :: B).length = j + 1 + 0 := by have := HLN.out; have := HAL.out; simp; omega
          have e2 : ((A ++ r :: B).map fun r : Nat => Value.int .i64 (r : Nat)) = toV A ++ [.int .i64 (r : Nat)] ++ toV B := by simp [toV]
          rw [e1, e2, HB0.out]
          exact hown3

theorem rin_nil (v : Int) (w : World) : Calls Tryd.prog 22 #[.slice none 0 0, .int .i64 v] w fun e w' => e = .returned (.bool false) ∧ w = w' := by
  go_enter Tryd.func22, Tryd.ntmps22
  go_wp2
  go_loop [5] (fun i => i = .int .i64 0) (fun _ => 0)
  case atStart => rfl
  case round =>
    obtain rfl := hrel
    go_wp2
    go_ret
    exact ⟨rfl, rfl⟩

set_option maxHeartbeats 2000000 in
theorem rset_ok (k seed : Nat) (w : World) (hk : 1 ≤ k) (hk2 : k ≤ 16) (h1 : 1 ≤ seed) (h2 : seed ≤ 10000) :
    Calls Tryd.prog 14 #[.int .i64 k, .int .i64 seed] w fun e w' => ∃ v, e = .returned v ∧ Lst w' v (setL k seed) ∧ Below w.heap.size w w' := by
  by_cases hle : seed ≤ k
  · have HL := hide (setL_one hle)
    have hle' : (seed : Int) ≤ (k : Int) := by omega
    clear hle
    go_enter Tryd.func14, Tryd.ntmps14
    go_wp2
    go_ret
    refine ⟨_, rfl, ?_, (Below.refl _ _).alloc (Nat.le_refl _) _⟩
    rw [HL.out]
    refine ⟨_, _, rfl, Nat.le_refl _, by unfold maxLen; simp, fun i hi => ?_⟩
    obtain rfl : i = 0 := by simpa using hi
    have h9 := cell_one_new w (.int .i64 ((seed : Int) - 1)) 3 0 _ rfl
    have e9 : (((seed - 1 : Nat)) : Int) = (seed : Int) - 1 := by omega
    simp only [Addr.add, List.getD_cons_zero, e9] at h9 ⊢
    exact h9
  · have hle' : ¬ (seed : Int) ≤ (k : Int) := by omega
    have hx : Num (seed : Int) := ⟨by omega, by omega⟩
    have N := hide (rnxt seed w hx)
    obtain ⟨n, hn, hn2⟩ : ∃ n : Nat, nxt seed % 1000 = (n : Int) ∧ n < 1000 := ⟨(nxt seed % 1000).toNat, by omega, by omega⟩
    have HD : Hid (setD k seed = deg k n) := by unfold Hid setD; rw [hn, Int.toNat_natCast]
    have D : Hid (Calls Tryd.prog 21 #[.int .i64 k, .int .i64 (nxt seed % 1000)] w fun e w' => e = .returned (.int .i64 (deg k n)) ∧ w = w') := by
      rw [hn]; exact rdeg k n w hk hk2 hn2
    have hd1 := deg_le k n hk
    have hd0 := deg_ge k n
    have HS : Hid (∀ i, Stop k (nxt seed) (setD k seed) i → setL k seed = setAt k (nxt seed) i) := fun i hs => setL_stop hle hs
    have HX := hide hx.nxt
    obtain ⟨T, hT⟩ := setAt_all (k := k) hx.nxt hk (by omega)
    have HT := hide hT
    obtain ⟨hy1, hy2⟩ := hx.nxt
    clear hn hx hle hT
    generalize nxt (seed : Int) = y at *
    generalize deg k n = d at *
    go_enter Tryd.func14, Tryd.ntmps14
    go_wp2_with fail
    refine (N.out).mono ?_
    rintro e w1 ⟨rfl, rfl⟩
    go_wp2_with fail
    refine (D.out).mono ?_
    rintro e w1 ⟨rfl, rfl⟩
    clear N D
    go_wp2_with fail
    go_loopg [5, 7] T (fun g x v wr => ∃ (i : Nat) (a : Option Addr) (cap : Nat), x = .int .i64 (rowV y i) ∧ v = .slice a (setAt k y i).length cap ∧ i + g = T ∧ (∀ j, j < i → (setAt k y j).length < d) ∧ ((setAt k y i = [] ∧ v = .slice none 0 0) ∨ (0 < (setAt k y i).length ∧ Lst wr v (setAt k y i))) ∧ Below w.heap.size w wr)
    case atStart =>
      exact ⟨0, none, 0, rfl, by rw [setAt_zero]; rfl, by omega, fun j h => absurd h (Nat.not_lt_zero _), Or.inl ⟨setAt_zero k y, rfl⟩, Below.refl _ _⟩
    case round =>
      obtain ⟨i, a, cap, rfl, rfl, hig, hbef, hL, hb⟩ := hrel
      have HB := hide hbef
      have HL := hide hL
      have HBw := hide hb
      have hle := setAt_len k y i
      clear hbef hL hb
      obtain ⟨s, hs⟩ : ∃ s, s = (setAt k y i).length := ⟨_, rfl⟩
      have HSz := hide hs
      by_cases c : s < d
      · have hiT : i < T := by
          rcases Nat.lt_or_ge i T with h | h
          · exact h
          · have := HT.out i h; omega
        have N := hide (rnxt (rowV y i) wr (HX.out.rowV i))
        have hzz := HX.out.rowV (i + 1)
        obtain ⟨hz1, hz2⟩ := hzz
        have HDr := hide (draw_cast HX.out hk i)
        have hR := draw_lt (x := y) hk i
        have HBn : Hid (∀ j, j < i + 1 → (setAt k y j).length < d) := fun j hj => by
          by_cases c2 : j = i
          · subst c2; omega
          · exact HB.out j (by omega)
        rw [← hs] at hle ⊢
        clear hs
        have ez : nxt (rowV y i) = rowV y (i + 1) := rfl
        rw [ez] at N
        clear ez
        by_cases hmem : draw k y i ∈ setAt k y i
        · have HO := hide (setAt_old HX.out hk hmem)
          rcases HL.out with ⟨he, _⟩ | ⟨h0, g, cap', hv, hc1, hc2, hc⟩
          · rw [he] at hmem; cases hmem
          · injection hv with e1 e2 e3
            subst e1 e3
            have I : Hid (Calls Tryd.prog 22 #[.slice (some ⟨g, 0, none⟩) s cap, .int .i64 (rowV y (i + 1) % (k : Int))] wr fun e w' => e = .returned (.bool true) ∧ wr = w') := by
              obtain ⟨q, hq, he⟩ := List.getElem_of_mem hmem
              rw [HDr.out, HSz.out]
              exact rin_yes g 0 _ cap _ _ wr (by omega) hc q hq (by simp [List.getD, hq, he])
            have HLo := hide (show Lst wr (.slice (some ⟨g, 0, none⟩) s cap) (setAt k y i) from ⟨g, cap, by rw [HSz.out], hc1, hc2, hc⟩)
            unfold maxLen at hc2
            have hsc : s ≤ cap := by have := HSz.out; omega
            have H0 := hide h0
            clear hmem HL hc1 e2 HDr hc h0
            generalize rowV y i = x at *
            generalize hzq : rowV y (i + 1) = z at *
            have HZ := hide hzq
            clear hzq
            go_wp2_with fail
            refine (N.out).mono ?_
            rintro e w2 ⟨rfl, rfl⟩
            go_wp2_with fail
            refine (I.out).mono ?_
            rintro e w2 ⟨rfl, rfl⟩
            go_wp2
            go_roundg (gk - 1)
            case measure => omega
            case rel =>
              refine ⟨i + 1, some ⟨g, 0, none⟩, cap, by rw [HZ.out], by rw [HO.out, HSz.out], by omega, HBn.out, Or.inr ⟨?_, ?_⟩, HBw.out⟩
              · rw [HO.out]; exact H0.out
              · rw [HO.out]; exact HLo.out
        · obtain ⟨A, B, hAB, hAB2, hA, hB⟩ := setAt_new HX.out hk hmem
          have HN := hide hAB2
          have PI : Hid (∃ a' cap', (.slice a s cap : Value) = .slice a' s cap' ∧ Calls Tryd.prog 22 #[.slice a s cap, .int .i64 (rowV y (i + 1) % (k : Int))] wr (fun e w' => e = .returned (.bool false) ∧ wr = w')
              ∧ Calls Tryd.prog 23 #[.slice a s cap, .int .i64 (rowV y (i + 1) % (k : Int))] wr (fun e w' => ∃ v, e = .returned v ∧ Lst w' v (A ++ draw k y i :: B) ∧ Below wr.heap.size wr w') ∧ cap ≤ 9223372036854775807 ∧ s ≤ cap) := by
            refine ⟨a, cap, rfl, ?_⟩
            rw [HDr.out]
            rcases HL.out with ⟨he, hv⟩ | ⟨h0, g, cap', hv, hc1, hc2, hc⟩
            · have hs0 : s = 0 := by rw [HSz.out, he]; rfl
              rw [he] at hv
              injection hv with e1 e2 e3
              subst e1 e3 hs0
              have hAB0 : A = [] ∧ B = [] := List.append_eq_nil_iff.1 (by rw [← hAB]; exact he)
              obtain ⟨rfl, rfl⟩ := hAB0
              exact ⟨rin_nil _ wr, (rput_nil _ wr (by omega)).mono fun e w' ⟨v, he, hl, hb, _⟩ => ⟨v, he, hl, hb⟩, by omega, by omega⟩
            · injection hv with e1 e2 e3
              subst e1 e3
              have hsz9 := HSz.out
              rw [HSz.out]
              refine ⟨rin_no g 0 _ cap _ _ wr (by unfold maxLen at *; omega) hc (fun q hq he => hmem ?_), (rput_ok g cap _ A B _ wr hAB h0 (by omega) hc1 hc2 (by omega) hc hA hB).mono fun e w' ⟨v, he, hl, hb, _⟩ => ⟨v, he, hl, hb⟩, by unfold maxLen at hc2; omega, hc1⟩
              have e9 : (setAt k y i).getD q 0 = draw k y i := by omega
              rw [← e9]
              have e10 : (setAt k y i).getD q 0 = (setAt k y i)[q] := by simp [List.getD, hq]
              rw [e10]
              exact List.getElem_mem hq
          obtain ⟨_, _, _, hI, hP, hcap, hsc⟩ := PI.out
          have I := hide hI
          have Pu := hide hP
          clear PI hI hP hmem HL HDr hA hB hAB hAB2
          generalize rowV y i = x at *
          generalize hzq : rowV y (i + 1) = z at *
          have HZ := hide hzq
          clear hzq
          go_wp2_with fail
          refine (N.out).mono ?_
          rintro e w2 ⟨rfl, rfl⟩
          go_wp2_with fail
          refine (I.out).mono ?_
          rintro e w2 ⟨rfl, rfl⟩
          go_wp2_with fail
          refine (Pu.out).mono ?_
          rintro e w2 ⟨v2, rfl, hl2, hb2⟩
          rw [← HN.out] at hl2
          obtain ⟨g2, cap2, rfl, hd1', hd2', hd3'⟩ := id hl2
          have HL2 := hide hl2
          have HB2 := hide (below_two HBw.out hb2)
          clear hl2 hb2 hd1' hd2' hd3'
          go_wp2
          go_roundg (gk - 1)
          case measure => omega
          case rel => exact ⟨i + 1, _, _, by rw [HZ.out], rfl, by omega, HBn.out, Or.inr ⟨by rw [HN.out, List.length_append, List.length_cons]; omega, HL2.out⟩, HB2.out⟩
      · have hst := hide (stop_of HX.out hk (d := d) (i := i) (by omega) HB.out)
        have hLs : Hid (Lst wr (.slice a s cap) (setAt k y i) ∧ s ≤ cap ∧ cap ≤ 9223372036854775807) := by
          rcases HL.out with ⟨he, hv⟩ | ⟨h0, hl⟩
          · have := hst.out.1; rw [he] at this; simp at this; omega
          · obtain ⟨g, cap', hv, hc1, hc2, hc⟩ := id hl
            injection hv with e1 e2 e3
            subst e3
            rw [HSz.out]
            exact ⟨hl, hc1, by unfold maxLen at hc2; omega⟩
        have hsc := hLs.out.2.1
        have hcc := hLs.out.2.2
        rw [← hs] at hle ⊢
        clear hs
        generalize rowV y i = x at *
        go_wp2
        go_ret
        exact ⟨_, rfl, by rw [HS.out i (HD.out ▸ hst.out)]; exact hLs.out.1, HBw.out⟩
end Go.Proofs.YtakaeikobahaoaaDoor

namespace Go.Proofs.YtakaeikobahaoaaDoor
open Go.RowKit
set_option linter.unusedVariables false
set_option maxRecDepth 100000

set_option maxHeartbeats 2000000 in
theorem rseeds_ok (k : Int) (v : Value) (len : Nat) (f : Nat → Int) (w : World) (hv : IntsAt w v len f) :
    Calls Tryd.prog 5 #[.int .i64 k, v] w fun e w' => e = .returned (.int .i64 (fS k len f)) ∧ w = w' := by
  obtain ⟨a, cap, rfl, h0⟩ := hv.open
  by_cases hl : 60 < len
  · have e : fS k len f = 4 := by unfold fS; exact if_pos hl
    rw [e]
    clear e h0 hv
    go_enter Tryd.func5, Tryd.ntmps5
    go_wp2
    go_ret
    exact ⟨rfl, rfl⟩
  have hl' : len ≤ 60 := by omega
  by_cases h1 : k < 1
  · have e : fS k len f = 1 := by unfold fS; rw [if_neg hl, if_neg (by omega)]
    rw [e]
    clear e h0 hv hl
    go_enter Tryd.func5, Tryd.ntmps5
    go_wp2
    go_ret
    exact ⟨rfl, rfl⟩
  by_cases h2 : 16 < k
  · have e : fS k len f = 1 := by unfold fS; rw [if_neg hl, if_neg (by omega)]
    rw [e]
    clear e h0 hv hl
    go_enter Tryd.func5, Tryd.ntmps5
    go_wp2
    go_ret
    exact ⟨rfl, rfl⟩
  have e : fS k len f = @ite Int (∃ j, j < len ∧ badS (f j) = true) (Classical.propDecidable _) 1 0 := by unfold fS; rw [if_neg hl, if_pos (by omega)]
  rw [e]
  have H0 := hide h0
  obtain ⟨y, hy⟩ : ∃ y : Int, y = @ite Int (∃ j, j < len ∧ badS (f j) = true) (Classical.propDecidable _) 1 0 := ⟨_, rfl⟩
  rw [← hy]
  have HY1 : Hid ((∃ j, j < len ∧ badS (f j) = true) → y = 1) := fun h => by rw [hy]; exact if_pos h
  have HY0 : Hid ((¬ ∃ j, j < len ∧ badS (f j) = true) → y = 0) := fun h => by rw [hy]; exact if_neg h
  clear e h0 hv hl hy
  go_enter Tryd.func5, Tryd.ntmps5
  go_wp2
  go_loopw [5] (fun i wr => ∃ j : Nat, j ≤ len ∧ i = .int .i64 j ∧ w = wr ∧ ∀ q, q < j → badS (f q) = false) (fun i _ => len - (intOf i).toNat)
  case atStart => exact ⟨0, Nat.zero_le _, rfl, rfl, fun q hq => absurd hq (Nat.not_lt_zero _)⟩
  case round =>
    obtain ⟨j, hj, rfl, hw, hno⟩ := hrel
    subst hw
    have HN := hide hno
    clear hno
    by_cases hlt : j < len
    · obtain ⟨b, o, ha, hc1, hc2, hc⟩ := H0.out (by omega)
      subst ha
      have hcj := hc j hlt
      unfold maxLen at hc2
      clear hc
      have hX : (badS (f j) = true ↔ f j < 1 ∨ 10000 < f j) := by unfold badS; simp; try omega
      have HX := hide hX
      clear hX
      have HY : Hid (badS (f j) = true → y = 1) := fun h => HY1.out ⟨j, hlt, h⟩
      have HZ : Hid (badS (f j) = false → ∀ q, q < j + 1 → badS (f q) = false) := fun h q hq => by
        by_cases e : q = j
        · rw [e]; exact h
        · exact HN.out q (by omega)
      have HB : Hid (badS (f j) = true ∨ badS (f j) = false) := by cases badS (f j); exact Or.inr rfl; exact Or.inl rfl
      generalize f j = x at *
      by_cases h3 : x < 1
      · have E1 := hide (HY.out (HX.out.2 (Or.inl h3)))
        go_wp2
        go_ret
        exact ⟨by rw [E1.out]; rfl, rfl⟩
      · by_cases h4 : 10000 < x
        · have E1 := hide (HY.out (HX.out.2 (Or.inr h4)))
          go_wp2
          go_ret
          exact ⟨by rw [E1.out]; rfl, rfl⟩
        · have HGo := hide (HZ.out (HB.out.resolve_left (fun h => by rcases HX.out.1 h with h | h <;> omega)))
          go_wp2
          go_roundw
          case rel => exact ⟨j + 1, by omega, by go_num, by first | rfl | trivial, HGo.out⟩
          case measure => simp [intOf]; omega
    · obtain rfl : j = len := by omega
      have E1 := hide (HY0.out (fun ⟨i, hi, hb⟩ => by rw [HN.out i hi] at hb; cases hb))
      go_wp2
      go_ret
      exact ⟨by rw [E1.out]; rfl, rfl⟩
end Go.Proofs.YtakaeikobahaoaaDoor

namespace Go.Proofs.YtakaeikobahaoaaDoor
open Go.RowKit
set_option linter.unusedVariables false
set_option maxRecDepth 100000

theorem setL16 {k seed : Nat} (hk : 1 ≤ k) (hk2 : k ≤ 16) (h1 : 1 ≤ seed) : ∀ p ∈ setL k seed, p < 16 := fun p hp => Nat.lt_of_lt_of_le (setL_lt hk h1 hp) hk2
theorem fill_lin (f : Nat → Bool) (d : ByteArray) : Array.foldl (fun (cs : Array Value) (x : Value × Nat) => cs.setIfInBounds x.snd x.fst) #[.bool false, .bool false, .bool false, .bool false, .bool false, .bool false, .bool false, .bool false, .bool false, .bool false, .bool false, .bool false, .bool false, .bool false, .bool false, .bool false, .string ⟨#[]⟩] (linC f d).zipIdx 0 (linC f d).size = linC f d := by kernel_rfl
theorem ArrI.stored {w : World} {b : Nat} {f : Nat → Int} (h : ArrI w b f) (f' : Nat → Int) : ArrI (w.setCells b 0 (arrC f').toList) b f' := fun j hj => by
  refine ⟨?_, by rw [World.frozen?_setCells]; exact (h j hj).2⟩
  have h9 := h.put f' j _ (by rw [Array.getElem?_toList]; exact arrC_at f' hj)
  rw [Nat.zero_add] at h9; exact h9
theorem atN_has (at_ : Nat → Option Nat) (b : Nat) : (0 ≤ atN at_ b ↔ (at_ b).isSome = true) := by
  unfold atN
  cases at_ b with
  | none => simp
  | some i => simp
set_option maxHeartbeats 4000000 in
theorem rrank_ok (CL : ClearOk) (k : Nat) (v : Value) (len : Nat) (s : Nat → Nat) (w : World) (hv : IntsAt w v len (fun i => (s i : Int))) (h : len ≤ 60) (hk : 1 ≤ k) (hk2 : k ≤ 16) (hs : ∀ j, j < len → 1 ≤ s j ∧ s j ≤ 10000) :
    Calls Tryd.prog 6 #[.int .i64 k, v] w fun e w' => ∃ r : Nat, e = .returned (.int .i64 (r : Nat)) ∧ Dim (Sp XN (masksD k s len)) r ∧ Below w.heap.size w w' := by
  have CLR := hide CL
  obtain ⟨a, cap, rfl, h0⟩ := hv.open
  have H0 := hide h0
  have HS := hide hs
  obtain ⟨i0, hi0, hz0, hz1, hz2⟩ := info_parts Tryd.infoLine
  have Hi := hide hi0
  have Hz0 := hide hz0
  have Hz1 := hide hz1
  have Hz2 := hide hz2
  clear hs hv h0 hi0 hz0 hz1 hz2 CL
  go_enter Tryd.func6, Tryd.ntmps6
  go_wp2_with fail
  go_loopw [5, 6] (fun vo i wr => ∃ (j : Nat) (ao : Option Addr) (co : Nat), j ≤ len ∧ i = .int .i64 j ∧ vo = .slice ao j co ∧ (j = 0 → vo = .slice none 0 0) ∧ wr.ownsRow w.heap.size 38 17 vo j (lcells (fun i => maskL (setL k (s i))) (fun _ => ⟨#[]⟩) j) ∧ Below w.heap.size w wr) (fun _ i _ => len - (intOf i).toNat)
  case atStart => exact ⟨0, none, 0, Nat.zero_le _, rfl, rfl, fun _ => rfl, World.ownsRow_nil _ _ _ _, Below.refl _ _⟩
  case round =>
    obtain ⟨j, ao, co, hj, rfl, rfl, hnil, hrow, hb⟩ := hrel
    have HRow := hide hrow
    have HNil := hide hnil
    have HB := hide hb
    clear hrow hnil hb
    by_cases hlt : j < len
    · obtain ⟨bb, o, ha, hc1, hc2, hc⟩ := H0.out (by omega)
      subst ha
      have hcj : wr.cell? ⟨bb, o + j, none⟩ = some (.int .i64 (s j : Nat)) := cell_below HB.out (hc j hlt)
      have hsj := HS.out j hlt
      have RS := hide (fun W => rset_ok k (s j) W hk hk2 hsj.1 hsj.2)
      have RO : Hid (∀ W v, Lst W v (setL k (s j)) → Calls Tryd.prog 13 #[v, .string ⟨#[]⟩] W fun e w' => e = .returned (.agg (linC (maskL (setL k (s j))).testBit ⟨#[]⟩)) ∧ Below W.heap.size W w') := fun W v hv => rof_ok _ v _ W hv (setL16 hk hk2 hsj.1) (setL_few hk hk2 hsj.1 hsj.2)
      have HNext : Hid (lcells (fun i => maskL (setL k (s i))) (fun _ => ⟨#[]⟩) (j + 1) = lcells (fun i => maskL (setL k (s i))) (fun _ => ⟨#[]⟩) j ++ (linC (maskL (setL k (s j))).testBit ⟨#[]⟩).toList) := lcells_succ _ _ _
      unfold maxLen at hc2
      clear hc
      generalize hxs : s j = x at *
      generalize hcc : linC (maskL (setL k x)).testBit ⟨#[]⟩ = cc at *
      have HC1 : Hid (cc.size = 17) := by rw [Hid, ← hcc]; rfl
      have HC2 : Hid (cc.all (·.oneCell') = true) := by rw [Hid, ← hcc]; exact linC_one _ _
      have HCC := hide hcc
      have hfill : Array.foldl (fun (cs : Array Value) (x : Value × Nat) => cs.setIfInBounds x.snd x.fst) #[.bool false, .bool false, .bool false, .bool false, .bool false, .bool false, .bool false, .bool false, .bool false, .bool false, .bool false, .bool false, .bool false, .bool false, .bool false, .bool false, .string ⟨#[]⟩] cc.zipIdx 0 17 = cc := by rw [← hcc]; exact fill_lin _ _
      have hcs : cc.size = 17 := HC1.out
      clear hxs hcc
      go_wp2_with fail
      refine (RS.out _).mono ?_
      rintro e w1 ⟨vs, rfl, hl1, hb1⟩
      have RO1 := hide (RO.out w1 vs hl1)
      have HB1 := hide (below_two HB.out hb1)
      have HRow1 := hide (ownU HRow.out hb1)
      clear hl1 hb1 RS RO hcj
      go_wp2_with fail
      refine (RO1.out).mono ?_
      rintro e w2 ⟨rfl, hb2⟩
      have HB2 := hide (below_two HB1.out hb2)
      have HRow2 := hide (ownU HRow1.out hb2)
      clear hb2 RO1
      have hL0 := linF_new w2 (fun _ => false) ⟨#[]⟩ 38
      have HTh := hide hL0.there
      have HPut : Hid ((((w2.alloc (.cells (linC (fun _ => false) ⟨#[]⟩) 38)).setCells w2.heap.size 0 cc.toList)).rangeAt w2.heap.size 0 cc.toList) := World.rangeAt_setCells_same _ _ _ _ (by rw [Array.length_toList, HC1.out]; exact HTh.out)
      have HBa := hide (below_two HB2.out ((Below.refl w2.heap.size w2).alloc (Nat.le_refl _) (.cells (linC (fun _ => false) ⟨#[]⟩) 38)))
      have HBs : Hid (Below w2.heap.size w2 ((w2.alloc (.cells (linC (fun _ => false) ⟨#[]⟩) 38)).setCells w2.heap.size 0 cc.toList)) := sets_below (Nat.le_refl _) _ _ _ ((Below.refl w2.heap.size w2).alloc (Nat.le_refl _) _)
      have HRow3 := hide (ownU HRow2.out HBs.out)
      have HB3 := hide (below_two HB2.out HBs.out)
      obtain ⟨W3, hW3⟩ : ∃ W3, W3 = (w2.alloc (.cells (linC (fun _ => false) ⟨#[]⟩) 38)).setCells w2.heap.size 0 cc.toList := ⟨_, rfl⟩
      rw [← hW3] at HRow3 HB3 HPut
      have hsz3 : w.heap.size ≤ W3.heap.size := HB3.out.size
      have HW3 := hide hW3
      clear hW3 hL0
      go_wp2_with (first
        | (refine wpList_store_mid rfl 38 _ _ rfl w2.heap.size 0 cc rfl rfl (by rw [HC1.out]; exact HTh.out) (by rw [HC1.out]; exact Tryd.sizeLine) HC2.out ?_; have hgen := HW3.out; unfold linC at hgen; rw [← hgen]; clear hgen)
        | (refine wpList_load_mid rfl 38 _ rfl w2.heap.size 0 rfl cc.toList _ HPut.out Tryd.underlying38 rfl (by rw [Array.length_toList, HC1.out]; exact Tryd.sizeLine) ?_)
        | (at_builtin; refine wpList_append_lies _ rfl _ _ 35 rfl w.heap.size 38 i0 (.agg (linC (fun _ => false) ⟨#[]⟩)) 17 32 Tryd.underlying35 Hi.out Hz0.out Hz1.out Hz2.out rfl (by decide) _ _ _ rfl (HRow3.out.alloc _) ⟨W3.heap.size, 0, none⟩ 1 1 cc.toList rfl (by rw [Array.length_toList, HC1.out]) (World.news_of_block (cs := cc) (t := 38) (fr := (0, 0)) (heap_alloc_new W3 _)) (fun u hu => (Array.all_eq_true_iff_forall_mem.1 HC2.out) u (by simpa using hu)) (by decide) (by unfold maxLen; omega) (by omega) (by simp; omega) _ rfl ?_; intro g4 cap4 w4 hown4 hgrow4 hat4 hlt4))
      refine ⟨⟨j + 1, some ⟨g4, 0, none⟩, cap4, by omega, by simp, rfl, fun h => by omega, ?_, ?_⟩, by simp [intOf]; omega⟩
      · rw [HNext.out]; exact hown4
      · exact (below_two HB3.out ((Below.refl _ _).alloc (Nat.le_refl _) _)).grown hgrow4 (by simp; omega) (fun q hq => (HRow.out.lt q hq).1)
    · obtain rfl : j = len := by omega
      have hln := own_lnsAt HRow.out HNil.out
      have C1 := hide (CLR.out k 0 j (.slice ao j co) _ _ wr hk hk2 (by omega) (by omega) hln (fun i hi => setL_mask hk (HS.out i hi).1) (fun _ _ => rfl))
      clear hln HRow HNil CLR
      go_wp2_with fail
      refine (C1.out).mono ?_
      rintro e w3 ⟨a3, c3, m, d, at_, us, rfl, hClr, hno, hsz, hln3, hb3⟩
      have HB3 := hide (below_two HB.out hb3)
      have HDim : Hid (Dim (Sp XN (masksD k s j)) (cntB (fun b => (at_ b).isSome) k)) := by
        have h9 := hClr.cleared.dim
        have e9 : ((List.range j).map fun i => rv (maskL (setL k (s i))) (⟨#[]⟩ : ByteArray)).map Prod.fst = masksD k s j := by unfold masksD; rw [List.map_map]; rfl
        rw [e9] at h9
        exact h9
      clear hClr hno hsz hln3 hb3 C1
      have hA0 := arrI_new w3 0 41
      have HTh := hide hA0.there
      have HA1 := hide (hA0.stored (atN at_))
      have HB4 : Hid (Below w.heap.size w ((w3.alloc (.cells (Array.replicate 16 (.int .i64 0)) 41)).setCells w3.heap.size 0 (arrC (atN at_)).toList)) := sets_below HB3.out.size _ _ _ (below_two HB3.out ((Below.refl w3.heap.size w3).alloc (Nat.le_refl _) _))
      generalize hW4 : (w3.alloc (.cells (Array.replicate 16 (.int .i64 0)) 41)).setCells w3.heap.size 0 (arrC (atN at_)).toList = W4 at *
      have HW4 := hide hW4
      clear hA0 hW4
      go_wp2_with (refine wpList_store_mid rfl 41 _ _ rfl w3.heap.size 0 (arrC (atN at_)) rfl rfl HTh.out Tryd.sizeArr (arrC_one _) ?_; (show wpList _ _ _ _ _ ((w3.alloc (.cells (Array.replicate 16 (.int .i64 0)) 41)).setCells w3.heap.size 0 (arrC (atN at_)).toList)); rw [HW4.out])
      go_loopw [10, 11] (fun t i wr => ∃ b : Nat, b ≤ k ∧ i = .int .i64 b ∧ t = .int .i64 (cntB (fun b => (at_ b).isSome) b : Nat) ∧ W4 = wr) (fun _ i _ => k - (intOf i).toNat)
      case atStart => exact ⟨0, Nat.zero_le _, rfl, rfl, rfl⟩
      case round =>
        obtain ⟨b, hb, rfl, rfl, hw⟩ := hrel
        subst hw
        have hle := cntB_le (fun b => (at_ b).isSome) b
        by_cases hlt : b < k
        · have cb := (HA1.out b (by omega)).1
          have HSu := hide (cntB_succ (fun b => (at_ b).isSome) b)
          have HAt := hide (atN_has at_ b)
          generalize cntB (fun b => (at_ b).isSome) b = q at *
          generalize atN at_ b = x at *
          by_cases hx : 0 ≤ x
          · have HEq : Hid (cntB (fun b => (at_ b).isSome) (b + 1) = q + 1) := by rw [Hid, HSu.out, if_pos (HAt.out.1 hx)]
            go_wp2
            go_roundw
            case rel => exact ⟨b + 1, by omega, by go_num, by rw [HEq.out]; simp, by first | rfl | trivial⟩
            case measure => simp [intOf]; omega
          · have HEq : Hid (cntB (fun b => (at_ b).isSome) (b + 1) = q) := by rw [Hid, HSu.out, if_neg (fun h => hx (HAt.out.2 h))]; rfl
            go_wp2
            go_roundw
            case rel => exact ⟨b + 1, by omega, by go_num, by rw [HEq.out], by first | rfl | trivial⟩
            case measure => simp [intOf]; omega
        · obtain rfl : b = k := by omega
          go_wp2
          go_ret
          exact ⟨_, rfl, HDim.out, HB4.out⟩
end Go.Proofs.YtakaeikobahaoaaDoor
